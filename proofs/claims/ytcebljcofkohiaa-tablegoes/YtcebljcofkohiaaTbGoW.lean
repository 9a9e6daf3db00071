/- Layer 11: TableGoes. -/
import Derived.Test.YtcebljcofkohiaaTbGoC
import Derived.Test.YtcebljcofkohiaaTbMapI
import Derived.Deep.RegionHeld3
namespace Go.Proofs.Ytcebljcofkohiaa
set_option linter.unusedVariables false
open Go.RowKit

theorem GoS.drew {W0 W : World} {T E M n₁ bT bD bt bB bL : Nat} {P : List Ent} {ds : List ByteArray} {ad : Option Addr} {cd : Nat} {qb : Option Addr} {cb last : Nat} {tl D : List ByteArray} {cc : Nat} (h : GoS W0 W T E M n₁ bT bD bt bB bL P ds ad cd qb cb last tl D cc) : GoS W0 W.drew T E M n₁ bT bD bt bB bL P ds ad cd qb cb last tl D cc := by
  have hb : Below W.heap.size W W.drew := (Below.refl _ _).drew
  obtain ⟨n, L, ho, h1, h2, h3⟩ := h.tab
  exact h.frn (Frn.below hb) ⟨n, L, ho.blk hb, h1, h2, h3.blk hb⟩
theorem GoS.blk {W0 W W' : World} {T E M n₁ bT bD bt bB bL : Nat} {P : List Ent} {ds : List ByteArray} {ad : Option Addr} {cd : Nat} {qb : Option Addr} {cb last : Nat} {tl D : List ByteArray} {cc : Nat} (h : GoS W0 W T E M n₁ bT bD bt bB bL P ds ad cd qb cb last tl D cc) (hb : Below W.heap.size W W') : GoS W0 W' T E M n₁ bT bD bt bB bL P ds ad cd qb cb last tl D cc := by
  obtain ⟨n, L, ho, h1, h2, h3⟩ := h.tab
  exact h.frn (Frn.below hb) ⟨n, L, ho.blk hb, h1, h2, h3.blk hb⟩

/-- what is so ahead of the places at i. -/
def GoJ (W0 : World) (T E M n₁ bT bD bt bB bL : Nat) (P : List Ent) (ds : List ByteArray) (ad : Option Addr) (cd : Nat) (qb : Option Addr) (cb last : Nat) (i : Nat) (W : World) : Prop :=
  GoS W0 W T E M n₁ bT bD bt bB bL P ds ad cd qb cb last (tc (ks P) ds last i) (ds.take (tc (ks P) ds last i).length) (tc (ks P) ds last i).length ∧ (tc (ks P) ds last i).length ≤ last
/-- at the end. -/
def GoX (W0 : World) (T E M n₁ bT bD bt bB bL : Nat) (P : List Ent) (ds : List ByteArray) (ad : Option Addr) (cd : Nat) (qb : Option Addr) (cb last : Nat) (W : World) : Prop :=
  ∃ D cc, GoS W0 W T E M n₁ bT bD bt bB bL P ds ad cd qb cb last (tc (ks P) ds last P.length) D cc

theorem goes_all {W0 w : World} {T E M n₁ bT bD bt bB bL nn : Nat} {P : List Ent} {ds : List ByteArray} {ad : Option Addr} {cd : Nat} {qb : Option Addr} {cb last : Nat} (h : Tab w T E M (1000 : Int) nn P) (B1 : Nat) (hB1 : Boxed w B1 24 (pt T))
    (h0 : GoJ W0 T E M n₁ bT bD bt bB bL P ds ad cd qb cb last 0 w) (hg : Given W0 ad ds) (hds : ∀ d ∈ ds, d.size ≤ 140737488351232) (hdn : ds.length ≤ 100000000000000) (hlast : last < 40) (hP : P.length ≤ 60) :
    Calls Try.prog 32 #[.func (.func 21) #[] #[pt bT, pt bD, pt bt, pt bB, pt bL], pt B1] w fun r w' => r = .returned (.tuple #[]) ∧ GoX W0 T E M n₁ bT bD bt bB bL P ds ad cd qb cb last w' := by
  refine (allG_in h B1 hB1 (pt bT) (pt bD) (pt bt) (pt bB) (pt bL) (GoJ W0 T E M n₁ bT bD bt bB bL P ds ad cd qb cb last) (GoX W0 T E M n₁ bT bD bt bB bL P ds ad cd qb cb last) (fun i W hj => ⟨hj.1.drew, hj.2⟩) (fun W hb => ⟨h0.1.blk hb, h0.2⟩) ?_).mono ?_
  · intro i hi W hj
    obtain ⟨n, L, ho, _, _, hPI⟩ := hj.1.tab
    have hm : P[i] ∈ P := List.getElem_mem hi
    have hc := hPI.cells ho.tab hm
    have hk : (ks P).getD i ⟨#[]⟩ = P[i].k := by
      rw [getD_at _ _ (by simpa [ks] using hi)]
      simp [ks]
    rcases hPI _ hm with ⟨h1, h2⟩ | ⟨h1, h2, h3⟩
    · have htc := tc_tell (ks P) ds last i (by have := hj.2; omega) (by rw [hk]; exact h1)
      rw [hk] at htc
      refine .inl ⟨P[i].v, now_live ho.tab h2, hc.1, hc.2, ?_⟩
      refine (goes1_in hj.1.drew hg hds hdn hj.2 hlast hP P[i].k P[i].v).mono ?_
      rintro r W' ⟨rfl, hS, hK⟩
      have hS' : GoS W0 W' T E M n₁ bT bD bt bB bL P ds ad cd qb cb last (tc (ks P) ds last (i + 1)) (ds.take (tc (ks P) ds last (i + 1)).length) (tc (ks P) ds last (i + 1)).length := by
        rw [htc, List.length_append]
        exact hS
      obtain ⟨n', L', ho', _, _, hPI'⟩ := hS'.tab
      have hc' := hPI'.cells ho'.tab hm
      refine ⟨_, rfl, fun hb => ⟨hS', by rw [htc, List.length_append]; exact of_decide_eq_true hb⟩, fun hb => ?_, hK, hc'.1, hc'.2⟩
      have hgt : last < (tc (ks P) ds last (i + 1)).length := by
        rw [htc, List.length_append]
        have := of_decide_eq_false hb
        simp
        omega
      have e := tc_after _ _ _ _ hgt (P.length - (i + 1))
      rw [show i + 1 + (P.length - (i + 1)) = P.length by omega] at e
      unfold GoX
      rw [e]
      exact ⟨_, _, hS'⟩
    · refine .inr ⟨now_dead ho.tab h2.nw h2.key h3 ?_, ?_⟩
      · exact h.sz _ hm
      · have htc := tc_skip (ks P) ds last i (by have := hj.2; omega) (by rw [hk]; exact h1)
        unfold GoJ
        rw [htc]
        exact hj
  · rintro r w' ⟨rfl, hj | hx⟩
    · exact ⟨rfl, _, _, hj.1⟩
    · exact ⟨rfl, hx⟩

theorem TabO.base {V W w : World} {T E M : Nat} {most : Int} {n : Nat} {L : List Ent} (h : TabO W w T E M most n L) (hb : Below V.heap.size V W) : TabO V w T E M most n L :=
  ⟨h.tab, fun b hs => Nat.le_trans hb.size (h.own b hs), hb.trans (h.bel.mono hb.size)⟩

/-- how many keys there are behind puts. -/
theorem put_len (m : Nat) (l : KV) (k : ByteArray) (v : Int) : (putR m l k v).length ≤ l.length + 1 := by
  unfold putR without
  rw [List.length_take, List.length_cons]
  have := List.length_filter_le (fun p : ByteArray × Int => decide (p.1 ≠ k)) l
  omega

set_option maxRecDepth 100000 in
set_option maxHeartbeats 4000000 in
theorem goes_walk (a0 : Option Addr) (cap0 : Nat) (ls : List ByteArray) (hw : ls.length * 16 ≤ 140737488355328) (hmax : ∀ l ∈ ls, l.size ≤ 140737488351232) (a1 : Option Addr) (cap1 : Nat) (ds : List ByteArray) (hw1 : ds.length * 16 ≤ 140737488355328) (hmax1 : ∀ l ∈ ds, l.size ≤ 140737488351232) (c : Int) (hc : (Lit.int .i64 c).wf = true) (W : World) (hg : Given W a0 ls) (hg1 : Given W a1 ds) :
    Calls Try.prog 5 #[.slice a0 ls.length cap0, .slice a1 ds.length cap1, .int .i64 c] W fun e w' => e = .returned (.bool true) ∧ Below W.heap.size W w' := by
  have hcb := Go.bounds_i64 hc
  have hgd : ∀ j, (ls.getD j ⟨#[]⟩).size ≤ maxLen := fun j => by
    by_cases hj : j < ls.length
    · rw [getD_at _ _ hj]; exact Nat.le_trans (hmax _ (List.getElem_mem hj)) (by unfold maxLen; omega)
    · rw [getD_past _ _ (by omega)]; exact Nat.zero_le _
  clear hmax hc
  obtain ⟨n, hn⟩ : ∃ n, ls.length = n := ⟨_, rfl⟩
  rw [hn] at hw ⊢
  have HN := Hid.mk hn
  obtain ⟨m, hm⟩ : ∃ m, ds.length = m := ⟨_, rfl⟩
  rw [hm] at hw1 ⊢
  have HM := Hid.mk hm
  clear hn hm
  have HP := Hid.mk (pick_in · c 40 (by omega) (by decide) (by decide))
  have hp0 := pickR_ge c 40
  have hp1 := pickR_lt c 40 (by decide)
  obtain ⟨last, hp⟩ : ∃ p : Nat, pickR c 40 = (p : Int) := ⟨(pickR c 40).toNat, by omega⟩
  rw [hp] at hp0 hp1
  have hlast : last < 40 := by omega
  have HQ := Hid.mk hp
  have HD1 := Hid.mk hmax1
  clear hp hcb hmax1 hp0 hp1
  have hmf : ∀ (fn : Fn) (first cap : Array Value) (w : World), (Instr.makeFunc fn first cap).run Try.prog w = .ok (.func fn first cap) w := fun _ _ _ _ => rfl
  go_enter Try.func5, Try.ntmps5
  go_wp2_with fail
  refine (examples_in _).mono ?_
  rintro e w0 ⟨rfl, b0'⟩
  have b0 : Below W.heap.size W w0 := ((Below.refl _ _).alloc (Nat.le_refl _) _).trans (b0'.mono (by simp))
  have xD0 : Boxed w0 W.heap.size tSS (.slice a1 m cap1) := (b0'.block _ (by simp)).trans (Boxed.new W tSS _)
  go_wp2_with fail
  refine (new_kv w0 1000 (by decide) (by decide)).mono ?_
  rintro e w2 ⟨rfl, t2, b2⟩
  obtain ⟨T, hT⟩ : ∃ T, w0.heap.size + 3 = T := ⟨_, rfl⟩
  rw [hT] at t2 ⊢
  clear hT b0'
  have xD2 : Boxed w2 W.heap.size tSS (.slice a1 m cap1) := (b2.block _ xD0.lt).trans xD0
  go_wp2
  have b2a : Below w2.heap.size w2 (w2.alloc (Obj.cells #[pt T] 24)) := (Below.refl _ _).alloc (Nat.le_refl _) _
  have t3 := t2.blk b2a
  have xD3 := xD2.alloc (Obj.cells #[pt T] 24)
  have xt3 : Boxed (w2.alloc (Obj.cells #[pt T] 24)) w2.heap.size 24 (pt T) := Boxed.new w2 24 (pt T)
  obtain ⟨bt, hbt⟩ : ∃ bt, w2.heap.size = bt := ⟨_, rfl⟩
  have hbtW : W.heap.size < bt := by rw [← hbt]; exact xD2.lt
  rw [hbt] at xt3 ⊢
  clear hbt b2a t2 xD2 xD0
  go_loopw [10] (fun i wr => ∃ k : Nat, k ≤ n ∧ k ≤ 60 ∧ i = .int .i64 (k : Int) ∧ (∃ l, TabK w0 wr T 1000 k l ∧ l.length ≤ k) ∧ Boxed wr W.heap.size tSS (.slice a1 m cap1) ∧ Boxed wr bt 24 (pt T)) (fun i _ => n - (intOf i).toNat)
  case atStart => exact ⟨0, Nat.zero_le _, Nat.zero_le _, rfl, ⟨[], t3, Nat.zero_le _⟩, xD3, xt3⟩
  case round =>
    obtain ⟨k, hk, hk60, rfl, ⟨l, t, hl⟩, xD, xt⟩ := hrel
    by_cases hlt : k < n ∧ k < 60
    · obtain ⟨h1, h2⟩ := hlt
      have hBW := b0.trans (t.bel.mono b0.size)
      obtain ⟨b, off, rfl, hcell⟩ := hg.at hBW k (by rw [HN.out]; exact h1)
      have hbl : b < W.heap.size := by
        obtain ⟨b', off', e, hb', _⟩ := hg k (by rw [HN.out]; exact h1)
        cases e
        exact hb'
      have HPut := Hid.mk (put_kv (m := 1000) t.drew (ls.getD k ⟨#[]⟩) (k : Int) (by omega) (by decide) (by decide) (hgd k) (by unfold maxLen; omega))
      obtain ⟨s, hs⟩ : ∃ s, ls.getD k ⟨#[]⟩ = s := ⟨_, rfl⟩
      rw [hs] at hcell HPut
      have cx := xt.cell
      have HKP : Hid (∀ w4, TabK w0 w4 T 1000 (k + 1) (putR 1000 l s k) → Frn wr.drew w4 → w4.cell? ⟨bt, 0, none⟩ = some (pt T) ∧ w4.cell? ⟨b, off + k, none⟩ = some (.string s) ∧ Boxed w4 W.heap.size tSS (.slice a1 m cap1) ∧ Boxed w4 bt 24 (pt T)) := fun w4 t4 f4 => by
        have x1 := f4.box xt (by decide) (by decide)
        have e1 : w4.cell? ⟨b, off + k, none⟩ = some (.string (ls.getD k ⟨#[]⟩)) := by
          obtain ⟨b', off', e, hc4⟩ := hg.at (b0.trans (t4.bel.mono b0.size)) k (by rw [HN.out]; exact h1)
          cases e
          exact hc4
        rw [hs] at e1
        exact ⟨x1.cell, e1, f4.box xD (by decide) (by decide), x1⟩
      have h2' : (k : Int) < 60 := by omega
      have HI := Hid.mk (And.intro h1 (And.intro h2 hl))
      clear hs t hBW
      go_wp2
      go_region_held3 (fun u => u.cell? ⟨bt, 0, none⟩ = some (pt T) ∧ u.cell? ⟨b, off + k, none⟩ = some (.string s)) (first | exact ⟨cx, hcell⟩ | (constructor <;> assumption) | go_keep)
        (first | (go_at_call 9; refine HPut.out.mono ?_; rintro r w4 ⟨rfl, t4, f4⟩; have hk4 := HKP.out w4 t4 f4; have hk40 := hk4.1; have hk41 := hk4.2.1))
      have H4 := Hid.mk (And.intro t4 hk4.2.2)
      clear t4 f4 hk4 hk40 hk41
      go_wp2
      go_roundw
      case rel => exact ⟨k + 1, HI.out.1, HI.out.2.1, by go_num, ⟨_, H4.out.1, by have := put_len 1000 l s k; have := HI.out.2.2; omega⟩, H4.out.2.1, H4.out.2.2⟩
      case measure => simp [intOf]; omega
    · obtain ⟨E, M, L, ho, rfl⟩ := t
      rw [kv_len] at hl
      have hK := keys_in ho.tab
      have hL60 : L.length ≤ 60 := by omega
      have ho' := ho.base b0
      have HKeys := Hid.mk hK
      have HO := Hid.mk ho'
      have cx := xt.cell
      have HX := Hid.mk (And.intro xD xt)
      have hlen1 : Hid (L.length ≤ 60 ∧ k ≤ 60) := ⟨hL60, hk60⟩
      clear hK ho' xD hgd t3 xD3 xt3 xt ho
      have hor : ¬ ((k : Int) < (n : Int)) ∨ ((k : Int) < (n : Int) ∧ ¬ ((k : Int) < 60)) := by omega
      rcases hor with h1 | ⟨h1, h2⟩
      all_goals
        go_wp2_with fail
        refine HKeys.out.mono ?_
        rintro r w5 ⟨⟨v5, rfl, hrow5⟩, b5⟩
        have HR5 := Hid.mk hrow5
        obtain ⟨qb, cb, rfl⟩ := row_shape hrow5
        have x5 : Boxed w5 bt 24 (pt T) := (b5.block _ HX.out.2.lt).trans HX.out.2
        have xd5 : Boxed w5 W.heap.size tSS (.slice a1 m cap1) := (b5.block _ HX.out.1.lt).trans HX.out.1
        have cx5 := x5.cell
        have hbt5 := x5.lt
        have HX5 := Hid.mk (And.intro xd5 x5)
        clear hrow5 xd5 x5
        go_wp2_with fail
        refine (HP.out _).mono ?_
        rintro e w6 ⟨rfl, hw6⟩
        rw [HQ.out]
        subst hw6
        go_upto_region 12 with fail
        obtain ⟨w6, hw6⟩ : ∃ w6, (((w5.alloc (Obj.cells #[Value.slice qb L.length cb] 42)).alloc (Obj.cells #[Value.slice none 0 0] 42)).alloc (Obj.cells #[Value.int IntKind.i64 (last : Int)] 3)) = w6 := ⟨_, rfl⟩
        have b6 : Below w5.heap.size w5 w6 := by rw [← hw6]; exact (((Below.refl _ _).alloc (Nat.le_refl _) _).alloc (by simp) _).alloc (by simp; omega) _
        have hs6 : w6.heap.size = w5.heap.size + 3 := by rw [← hw6]; simp
        have xB6 : Boxed w6 w5.heap.size tSS (.slice qb L.length cb) := by rw [← hw6]; exact ((Boxed.new w5 tSS _).alloc _).alloc _
        have xT6 : Boxed w6 (w5.heap.size + 1) tSS (.slice none 0 0) := by
          rw [← hw6]
          have := (Boxed.new (w5.alloc (Obj.cells #[Value.slice qb L.length cb] 42)) tSS (.slice none 0 0)).alloc (Obj.cells #[Value.int IntKind.i64 (last : Int)] 3)
          rwa [World.size_alloc] at this
        have xL6 : Boxed w6 (w5.heap.size + 1 + 1) 3 (.int .i64 (last : Int)) := by
          rw [← hw6]
          have := Boxed.new ((w5.alloc (Obj.cells #[Value.slice qb L.length cb] 42)).alloc (Obj.cells #[Value.slice none 0 0] 42)) 3 (.int .i64 (last : Int))
          rwa [World.size_alloc, World.size_alloc] at this
        rw [hw6]
        have xt6 : Boxed w6 bt 24 (pt T) := (b6.block _ HX5.out.2.lt).trans HX5.out.2
        have cx6 := xt6.cell
        have xD6 : Boxed w6 W.heap.size tSS (.slice a1 m cap1) := (b6.block _ HX5.out.1.lt).trans HX5.out.1
        have HB6 := Hid.mk (And.intro xB6 (And.intro xT6 (And.intro xL6 (And.intro xt6 xD6))))
        have HS6 := Hid.mk hs6
        clear hw6 hs6 xB6 xT6 xL6 xt6 xD6 hbt5 cx5
        go_wp2_with fail
        refine (allOf_in _ _).mono ?_
        rintro e w7 ⟨rfl, hw7⟩
        have b7 : Below w6.heap.size w6 w7 := by rw [hw7]; exact (Below.refl _ _).alloc (Nat.le_refl _) _
        have x7 : Boxed w7 w6.heap.size 24 (pt T) := by rw [hw7]; exact Boxed.new _ _ _
        obtain ⟨y1, y2, y3, y4, y5⟩ := HB6.out
        have hs6 := HS6.out
        have b57 : Below w5.heap.size w5 w7 := b6.trans (b7.mono b6.size)
        have brW := HO.out.bel
        have ho7 := ((HO.out.blk b5).blk b6).blk b7
        have hr7 : w7.ownsRow W.heap.size tSt 1 (.slice qb L.length cb) L.length (strC (ks L)) := by
          obtain ⟨hl', h0' | ⟨g, cap, cur, hv', hb', hg', r'⟩⟩ := HR5.out
          · exact ⟨hl', .inl h0'⟩
          · exact ⟨hl', .inr ⟨g, cap, cur, hv', by have := brW.size; omega, (b57.block _ (blk_lt hg')).trans hg', r'⟩⟩
        have hbg : ∀ g, some g = (Value.slice qb L.length cb).ownBlock → g < w5.heap.size := fun g hgb => by
          rcases HR5.out.2 with ⟨h0', _⟩ | ⟨g', cap, cur, hv', hb', hg', r'⟩
          · simp only [Value.slice.injEq] at h0'
            rw [h0'.1] at hgb
            simp [Value.ownBlock] at hgb
          · cases hv'
            obtain rfl : g = g' := by simpa [Value.ownBlock] using hgb
            exact blk_lt hg'
        have hW5 : W.heap.size < w5.heap.size := HX5.out.1.lt
        have hbt5 : bt < w5.heap.size := HX5.out.2.lt
        have h0 : GoJ W T E M w5.heap.size (w5.heap.size + 1) W.heap.size bt w5.heap.size (w5.heap.size + 1 + 1) L ds a1 cap1 qb cb last 0 w7 := by
          refine ⟨⟨⟨k, L, ho7, by have := hlen1.out; omega, by have := hlen1.out; omega, fun e he => .inl ⟨by simp [tc], he⟩⟩, ⟨_, (b7.block _ y2.lt).trans y2, World.ownsRow_nil ..⟩, ?_, (b7.block _ y4.lt).trans y4, (b7.block _ y1.lt).trans y1, (b7.block _ y3.lt).trans y3, hr7, hbg, b57.size, by omega, ?_⟩, Nat.zero_le _⟩
          · rw [HM.out]
            exact (b7.block _ y5.lt).trans y5
          · refine ⟨by omega, by omega, by omega, by omega, by omega⟩
        have HAll := Hid.mk (goes_all ho7.tab w6.heap.size x7 h0 hg1 HD1.out (by rw [HM.out]; omega) hlast hlen1.out.1)
        clear h0 hbg hr7 ho7 brW b57 hs6 y1 y2 y3 y4 y5 x7 hw7
        go_wp2_with fail
        refine HAll.out.mono ?_
        rintro e w8 ⟨rfl, D8, cc8, hS8⟩
        obtain ⟨vt, hvt, hrt⟩ := hS8.told
        obtain ⟨qt, ct, rfl⟩ := row_shape hrt
        obtain ⟨TL, hTL⟩ : ∃ TL, tc (ks L) ds last L.length = TL := ⟨_, rfl⟩
        obtain ⟨nt, hnt⟩ : ∃ nt, TL.length = nt := ⟨_, rfl⟩
        obtain ⟨np, hnp⟩ : ∃ np, L.length = np := ⟨_, rfl⟩
        rw [hTL] at hvt hrt
        rw [hnt] at hvt hrt
        have hB8 := hS8.xB
        have hD8 := hS8.xD
        have hL8 := hS8.xL
        have hf8 := hS8.bf
        rw [hnp] at hB8 hf8
        rw [HM.out] at hD8
        have hsP : ∀ j, ((ks L).getD j ⟨#[]⟩).size ≤ maxLen := fun j => by
          by_cases hj : j < (ks L).length
          · rw [getD_at _ _ hj]
            obtain ⟨e, he, hek⟩ := List.mem_map.1 (List.getElem_mem hj)
            rw [← hek]
            exact HO.out.tab.sz e he
          · rw [getD_past _ _ (by omega)]; exact Nat.zero_le _
        have hbW := hS8.bel
        have HC8 : Hid (Boxed w8 (w5.heap.size + 1) tSS (.slice qt nt ct) ∧ Boxed w8 w5.heap.size tSS (.slice qb np cb) ∧ Boxed w8 W.heap.size tSS (.slice a1 m cap1) ∧ Boxed w8 (w5.heap.size + 1 + 1) 3 (.int .i64 (last : Int))) := ⟨hvt, hB8, hD8, hL8⟩
        have HBC : Hid (∀ wr j, Below w8.heap.size w8 wr → j < np → ∃ gb, qb = some ⟨gb, 0, none⟩ ∧ wr.cell? ⟨gb, j, none⟩ = some (.string ((ks L).getD j ⟨#[]⟩))) := fun wr j hb hj => by
          have hjl : j < (ks L).length := by simp [ks]; omega
          obtain ⟨gb, cc, e1, _, hgl, hce⟩ := row_cells hf8 (by omega)
          cases e1
          exact ⟨gb, rfl, (hb.cell (p := ⟨gb, j, none⟩) hgl).trans (hce j _ (by rw [getD_at _ _ hjl]; simp [hjl]))⟩
        have HTC : Hid (∀ wr j, Below w8.heap.size w8 wr → j < nt → ∃ gb, qt = some ⟨gb, 0, none⟩ ∧ wr.cell? ⟨gb, j, none⟩ = some (.string (TL.getD j ⟨#[]⟩))) := fun wr j hb hj => by
          have hjl : j < TL.length := by omega
          obtain ⟨gb, cc, e1, _, hgl, hce⟩ := row_cells hrt (by omega)
          cases e1
          exact ⟨gb, rfl, (hb.cell (p := ⟨gb, j, none⟩) hgl).trans (hce j _ (by rw [getD_at _ _ hjl]; simp [hjl]))⟩
        have HDC : Hid (∀ wr j, Below w8.heap.size w8 wr → j < m → ∃ b off, a1 = some ⟨b, off, none⟩ ∧ wr.cell? ⟨b, off + j, none⟩ = some (.string (ds.getD j ⟨#[]⟩))) := fun wr j hb hj =>
          hg1.at (hbW.trans (hb.mono hbW.size)) j (by rw [HM.out]; exact hj)
        have HTL := Hid.mk hTL
        have HNT := Hid.mk hnt
        have HNP := Hid.mk hnp
        have HBW := Hid.mk hbW
        have hnt41 : nt ≤ 41 := by rw [← hnt, ← hTL]; exact Nat.le_trans (tc_le _ _ _ _) (by omega)
        have hnp60 : np ≤ 60 := by rw [← hnp]; exact hlen1.out.1
        have hmm := @run_makeMap Try.prog
        clear hS8 hvt hrt hTL hnt hnp hB8 hD8 hL8 hf8 hbW HAll b7 cx6 HB6 HS6 HX HX5 HKeys HR5 b5 b6 hlen1 hL60 hl hk hk60
        go_wp2
        have b9 : Below w8.heap.size w8 (w8.alloc (.map #[] 0)) := (Below.refl _ _).alloc (Nat.le_refl _) _
        go_loopw [16, 17] (fun at_ i wr => ∃ x : Nat, x ≤ np ∧ i = .int .i64 (x : Int) ∧ at_ = .int .i64 (((tc (ks L) ds last x).length : Nat) : Int) ∧ (∃ nn, nn ≤ (tc (ks L) ds last x).length ∧ MapI wr w8.heap.size nn (fun k => ((cntB (ds.take (tc (ks L) ds last x).length) k : Nat) : Int))) ∧ Below w8.heap.size w8 wr) (fun _ i _ => np - (intOf i).toNat)
        case atStart => exact ⟨0, Nat.zero_le _, rfl, rfl, ⟨0, Nat.zero_le _, by simpa [tc, cntB] using MapI.made w8⟩, b9⟩
        case round =>
          obtain ⟨x, hx, rfl, rfl, ⟨nn, hnn, hmp⟩, hbr⟩ := hrel
          have z1 : Boxed wr (w5.heap.size + 1) tSS (.slice qt nt ct) := (hbr.block _ HC8.out.1.lt).trans HC8.out.1
          have z2 : Boxed wr w5.heap.size tSS (.slice qb np cb) := (hbr.block _ HC8.out.2.1.lt).trans HC8.out.2.1
          have z3 : Boxed wr W.heap.size tSS (.slice a1 m cap1) := (hbr.block _ HC8.out.2.2.1.lt).trans HC8.out.2.2.1
          have z4 : Boxed wr (w5.heap.size + 1 + 1) 3 (.int .i64 (last : Int)) := (hbr.block _ HC8.out.2.2.2.lt).trans HC8.out.2.2.2
          have k1 := z1.cell
          have k2 := z2.cell
          have k3 := z3.cell
          have k4 := z4.cell
          clear z1 z2 z3 z4
          obtain ⟨a, ha⟩ : ∃ a, (tc (ks L) ds last x).length = a := ⟨_, rfl⟩
          rw [ha] at hnn hmp ⊢
          have HA := Hid.mk ha
          have HMP := Hid.mk (And.intro hnn hmp)
          clear ha hmp hnn
          by_cases hxn : x < np
          · obtain ⟨gb, rfl, hcx⟩ := HBC.out wr x hbr hxn
            by_cases hla : last < a
            · -- it was stopped
              have hna : nt = a := by
                rw [← HNT.out, ← HTL.out, HNP.out, show np = x + (np - x) by omega, tc_after _ _ _ _ (by rw [HA.out]; exact hla), HA.out]
              subst hna
              go_wp2
              go_ret
              exact ⟨rfl, HBW.out.trans (hbr.mono HBW.out.size)⟩
            · have hkx := HMP.out.2.look ((ks L).getD x ⟨#[]⟩) (hsP x)
              have HSP := Hid.mk hsP
              clear hsP
              obtain ⟨q, hq⟩ : ∃ q, cntB (ds.take a) ((ks L).getD x ⟨#[]⟩) = q := ⟨_, rfl⟩
              have HTS := Hid.mk (tc_skip (ks L) ds last x (by rw [HA.out]; exact hla))
              have HTT := Hid.mk (tc_tell (ks L) ds last x (by rw [HA.out]; exact hla))
              rw [HA.out] at HTS HTT
              have HCP := Hid.mk (cnt_pos (l := ds.take a) (k := (ks L).getD x ⟨#[]⟩))
              obtain ⟨sx, hsx⟩ : ∃ s, (ks L).getD x ⟨#[]⟩ = s := ⟨_, rfl⟩
              rw [hsx] at hcx hkx HTS HTT HCP hq
              rw [hq] at hkx HCP
              have HSX := Hid.mk hsx
              have HQQ := Hid.mk hq
              clear hsx hq
              by_cases hin : 0 < q
              · have htc := HTS.out (HCP.out.1 hin)
                have HTc := Hid.mk htc
                have hin2 : (0 : Int) < (q : Int) := by omega
                clear htc
                go_wp2
                go_roundw
                case rel => exact ⟨x + 1, hxn, by go_num, by rw [HTc.out, HA.out], ⟨nn, by rw [HTc.out, HA.out]; exact HMP.out.1, by rw [HTc.out, HA.out]; exact HMP.out.2⟩, hbr⟩
                case measure => simp [intOf]; omega
              · have htc := HTT.out (fun hh => hin (HCP.out.2 hh))
                have hpre := tc_pre (ks L) ds last (x + 1) (np - (x + 1))
                rw [show x + 1 + (np - (x + 1)) = np by omega, htc, ← HNP.out, HTL.out] at hpre
                have hat : a < nt := by
                  have := hpre.length_le
                  rw [List.length_append, HA.out, HNT.out, List.length_singleton] at this
                  omega
                have hTa : TL.getD a ⟨#[]⟩ = sx := by
                  obtain ⟨r, hr⟩ := hpre
                  rw [← hr, getD_at _ _ (by simp [HA.out])]
                  rw [List.getElem_append_left (by simp [HA.out]), List.getElem_append_right (by simp [HA.out])]
                  simp [HA.out]
                obtain ⟨gt, rfl, hct⟩ := HTC.out wr a hbr hat
                rw [hTa] at hct
                have hin2 : ¬ (0 : Int) < (q : Int) := by omega
                have hneb : ((a : Int) == (nt : Int)) = false := by rw [beq_eq_false_iff_ne]; omega
                have HLen : Hid ((tc (ks L) ds last (x + 1)).length = a + 1) := by rw [Hid, htc, List.length_append, HA.out]; rfl
                have hmd : MapI wr.drew w8.heap.size nn (fun k => ((cntB (ds.take a) k : Nat) : Int)) := MapI.same HMP.out.2 rfl
                clear hTa hpre htc
                by_cases ham : a < m
                · obtain ⟨b, off, rfl, hcd⟩ := HDC.out wr a hbr ham
                  have hda : a < ds.length := by rw [HM.out]; exact ham
                  have hdz : (ds.getD a ⟨#[]⟩).size ≤ maxLen := by
                    rw [getD_at _ _ hda]
                    exact Nat.le_trans (HD1.out _ (List.getElem_mem hda)) (by unfold maxLen; omega)
                  have hkd := hmd.look (ds.getD a ⟨#[]⟩) hdz
                  have hcl := cnt_le (ds.take a) (ds.getD a ⟨#[]⟩)
                  rw [List.length_take] at hcl
                  obtain ⟨w10, hup, hm10, ht10⟩ := hmd.put (ds.getD a ⟨#[]⟩) (((cntB (ds.take a) (ds.getD a ⟨#[]⟩) : Nat) : Int) + 1) hdz (by have := HMP.out.1; unfold maxLen; omega) (WalkArith.wf_i64 (by omega))
                  have HTk : Hid (ds.take (a + 1) = ds.take a ++ [ds.getD a ⟨#[]⟩]) := by rw [Hid, List.take_succ_eq_append_getElem hda, getD_at _ _ hda]
                  obtain ⟨sd, hsd⟩ : ∃ s, ds.getD a ⟨#[]⟩ = s := ⟨_, rfl⟩
                  rw [hsd] at hcd hkd hup hm10 HTk hcl
                  obtain ⟨cq, hcq⟩ : ∃ cq, cntB (ds.take a) sd = cq := ⟨_, rfl⟩
                  rw [hcq] at hkd hup hcl
                  have HM10 : Hid (MapI w10 w8.heap.size (nn + 1) (fun k => ((cntB (ds.take (a + 1)) k : Nat) : Int))) := by
                    rw [Hid, HTk.out]
                    have e : (fun k => ((cntB (ds.take a ++ [sd]) k : Nat) : Int)) = (fun x => if x = sd then ((cntB (ds.take a) sd : Nat) : Int) + 1 else ((cntB (ds.take a) x : Nat) : Int)) := by
                      funext k
                      rw [cnt_snoc]
                      split <;> simp
                    rw [e]
                    exact hm10
                  have HB10 : Hid (Below w8.heap.size w8 w10) := (hbr.drew).grown ht10.grown hbr.size (fun k e => by cases e; exact Nat.le_refl _)
                  clear hsd hdz hm10 ht10 hmd hcq
                  go_wp2
                  go_region
                  go_wp2
                  go_roundw
                  case rel => exact ⟨x + 1, hxn, by go_num, by rw [HLen.out]; go_num, ⟨nn + 1, by rw [HLen.out]; have := HMP.out.1; omega, by rw [HLen.out]; exact HM10.out⟩, HB10.out⟩
                  case measure => simp [intOf]; omega
                · have HTk : Hid (ds.take (a + 1) = ds.take a) := by rw [Hid, List.take_of_length_le (by rw [HM.out]; omega), List.take_of_length_le (by rw [HM.out]; omega)]
                  have HMD := Hid.mk hmd
                  clear hmd
                  go_wp2
                  go_region
                  go_wp2
                  go_roundw
                  case rel => exact ⟨x + 1, hxn, by go_num, by rw [HLen.out]; go_num, ⟨nn, by rw [HLen.out]; have := HMP.out.1; omega, by rw [HLen.out, HTk.out]; exact HMD.out⟩, hbr.drew⟩
                  case measure => simp [intOf]; omega
          · have hna : nt = a := by
              obtain rfl : x = np := by omega
              rw [← HNT.out, ← HTL.out, HNP.out, HA.out]
            subst hna
            go_wp2
            go_ret
            exact ⟨rfl, HBW.out.trans (hbr.mono HBW.out.size)⟩

end Go.Proofs.Ytcebljcofkohiaa
