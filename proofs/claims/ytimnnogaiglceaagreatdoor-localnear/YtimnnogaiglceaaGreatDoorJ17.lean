/- Texts of this proof, joined: LdD, LdE, LdF, LdV, LdG, LdH. -/
import Derived.Test.YtimnnogaiglceaaGreatDoorJ16
import Derived.Test.YtimnnogaiglceaaGreatDoorJ13
/- Layer 14: zoneOf. -/
namespace Go.Proofs.YtimnnogaiglceaaGreatDoor
set_option linter.unusedVariables false
set_option linter.unusedSimpArgs false
open Go.RowKit
open So (El elC SRow cmpV)
def mtd (k : Int) : Nat := if k = 1 then 39 else if k = 2 then 40 else if k = 3 then 41 else if k = 4 then 42 else 43
structure ZoneAt (N : Nat) (w : World) (Z : Nat) (z : Lc) : Prop where
  nZ : N ≤ Z
  blk : ∃ v els q cap, w.heap[Z]? = some (.cells #[.string z.nm, v, .func (.func (mtd z.kd)) #[ptA Z 0] #[]] 65 (0, 0)) ∧ ZSets N w v (zsets z.rs) els q cap
theorem ZoneAt.below {N : Nat} {w w' : World} {Z : Nat} {z : Lc} (h : ZoneAt N w Z z) (hb : Below w.heap.size w w') : ZoneAt N w' Z z := by
  obtain ⟨v, els, q, cap, hz, hs⟩ := h.blk
  exact ⟨h.nZ, v, els, q, cap, (hb.block Z (Array.getElem?_eq_some_iff.1 hz).1).trans hz, hs.blk hb⟩
theorem ZoneAt.lt {N : Nat} {w : World} {Z : Nat} {z : Lc} (h : ZoneAt N w Z z) : Z < w.heap.size := by
  obtain ⟨v, els, q, cap, hz, hs⟩ := h.blk
  exact (Array.getElem?_eq_some_iff.1 hz).1
theorem zone_ty {z : Lc} (h : rightR z = true) : IsName z.nm ∧ (1 ≤ z.kd ∧ z.kd ≤ 5) ∧ z.rs.length ≤ 200 ∧ ∀ r ∈ z.rs, r.ty ≠ 46 := by
  unfold rightR at h
  simp only [Bool.and_eq_true, decide_eq_true_eq, List.all_eq_true] at h
  refine ⟨isN_iff.1 h.1.1.1.1, ⟨h.1.1.1.2, h.1.1.2⟩, h.1.2, fun r hr e => ?_⟩
  have := (h.2 r hr).1
  unfold rcR at this
  rw [e] at this
  simp at this
theorem Kst.zone {V w : World} {Z : Nat} {c : Array Value} (h : Kst V w) (hz : V.heap[Z]? = some (.cells c 65 (0, 0))) : w.heap[Z]? = some (.cells c 65 (0, 0)) := h _ _ _ _ hz (by decide) (by decide) (by decide)
theorem SetsAt.mono {N M : Nat} {w : World} {v : Value} {ss : List St} (h : SetsAt M w v ss) (hN : N ≤ M) : SetsAt N w v ss := by
  have low : ∀ {e size k : Nat} {v : Value} {l : List Value}, w.ownsRow M e size v k l → w.ownsRow N e size v k l := by
    intro e size k v l hr
    obtain ⟨hl, h0 | ⟨g, cap, cur, hv, hg0, r⟩⟩ := hr
    · exact ⟨hl, .inl h0⟩
    · exact ⟨hl, .inr ⟨g, cap, cur, hv, Nat.le_trans hN hg0, r⟩⟩
  obtain ⟨els, hr, hf⟩ := h
  exact ⟨els, low hr, hf.mono fun e s hs => ⟨hs.ls, hs.ty, hs.cl, hs.tl, hs.sv, low hs.dv⟩⟩
theorem SetsAt.blk {N : Nat} {w w' : World} {v : Value} {ss : List St} (h : SetsAt N w v ss) (hb : Below w.heap.size w w') : SetsAt N w' v ss := by
  obtain ⟨els, hr, hf⟩ := h
  exact ⟨els, own_blk hr hb, hf.mono fun e s hs => hs.keep fun b c f _ hc => hb.block b (Array.getElem?_eq_some_iff.1 hc).1⟩
theorem ZSets.set {N : Nat} {w : World} {v : Value} {ss : List St} {els : List El} {q : Option Addr} {cap : Nat} (h : ZSets N w v ss els q cap) {Z i : Nat} {c : Array Value} (hz : w.heap[Z]? = some (.cells c 65 (0, 0))) (x : Value) : ZSets N (w.setCell ⟨Z, i, none⟩ x) v ss els q cap where
  v := h.v
  le := h.le
  row := fun h0 => by
    obtain ⟨g, e, hg, r, hr⟩ := h.row h0
    exact ⟨g, e, hg, r, by rw [Below.heap_setCell _ _ _ _ (fun e0 => by obtain rfl : g = Z := e0; rw [hz] at hr; simp at hr)]; exact hr⟩
  rel := h.rel.mono fun e s hs => hs.keep fun b c f _ hc => Below.heap_setCell _ _ _ _ (fun e0 => by obtain rfl : b = Z := e0; rw [hz] at hc; simp at hc)
set_option maxRecDepth 100000 in
set_option maxHeartbeats 4000000 in
theorem zoneOf_in (z : Lc) (hz : rightR z = true) (hrs : RIn z.rs) (q : Option Addr) (cap : Nat) (W : World) (hat : RcsAt W q z.rs) : Calls Tryz.prog 20 #[.agg #[.string z.nm, .int .i64 z.kd, .slice q z.rs.length cap]] W fun e w' => ∃ Z, e = .returned (ptA Z 0) ∧ ZoneAt W.heap.size w' Z z ∧ Below W.heap.size W w' := by
  obtain ⟨hnm, hkd, hlen, hty⟩ := zone_ty hz
  have hro : RsOk z.rs := fun r hr => by obtain ⟨a, b, c, d⟩ := hrs r hr; exact ⟨a, b, c, d, hty r hr⟩
  have hcs := name_size hnm
  have HC := Hid.mk (clone_in z.nm · (by omega))
  have HSo := Hid.mk (fun (N : Nat) (w : World) (v : Value) (h : SetsAt N w v (setsR z.rs)) (hN : N ≤ w.heap.size) => zsort_in N w v (setsR z.rs) h (fun s hs => ((setsR_ok z.rs hrs).1 s hs).1) (Nat.le_trans (setsR_len _) hlen) hN)
  have HSe := Hid.mk (fun (w : World) (hb : Below W.heap.size W w) => sets_in w q cap z.rs (hat.blk hb) hro hlen)
  obtain ⟨n, hn⟩ : ∃ n, z.rs.length = n := ⟨_, rfl⟩
  rw [hn] at HSe ⊢
  have X0 := Bx.new W [.string z.nm, .int .i64 z.kd, .slice q n cap] 26
  obtain ⟨V, hV⟩ : ∃ V, W.alloc (.cells #[.string z.nm, .int .i64 z.kd, .slice q n cap] 26) = V := ⟨_, rfl⟩
  have X1 : Bx W W.heap.size [.string z.nm, .int .i64 z.kd, .slice q n cap] 26 V := hV ▸ X0
  have HV := Hid.mk hV
  have HBV := Hid.mk X1.bel
  have HX : Hid (∀ w, Kst V w → Kst V w ∧ w.cell? ⟨W.heap.size, 0, none⟩ = some (.string z.nm) ∧ w.cell? ⟨W.heap.size, 1, none⟩ = some (.int .i64 z.kd) ∧ w.cell? ⟨W.heap.size, 2, none⟩ = some (.slice q n cap)) := by
    intro w hk
    have e1 := hk _ _ _ _ X1.hb (by decide) (by decide) (by decide)
    exact ⟨hk, by rw [So.cell_blk e1]; rfl, by rw [So.cell_blk e1]; rfl, by rw [So.cell_blk e1]; rfl⟩
  clear hV X0 X1 hat hn hrs hro hcs hlen hty hz hnm
  go_enter Tryz.func20, Tryz.ntmps20
  go_upto_region 1 with fail
  rw [HV.out]
  refine wp_region_held_drew (S := fun w => Kst V w ∧ w.cell? ⟨W.heap.size, 0, none⟩ = some (.string z.nm) ∧ w.cell? ⟨W.heap.size, 1, none⟩ = some (.int .i64 z.kd) ∧ w.cell? ⟨W.heap.size, 2, none⟩ = some (.slice q n cap)) (by kernel_rfl) (HX.out _ (Kst.refl _).drew) (fun hHeld => ?_)
  refine wpAnyH_take (i := 0) (v := ?va_0) rfl (by kernel_rfl) (by kernel_rfl) (by kernel_rfl) (fun _ _ _ h => h) (Or.inl ⟨by kernel_rfl, ?ya_0⟩) (by assumption) ?_
  case ya_0 => (intro w hSw; (try dsimp only at hSw); go_simp; try with_reducible rfl)
  refine wpAnyH_take (i := 1) (v := ?va_1) rfl (by kernel_rfl) (by kernel_rfl) (by kernel_rfl) (fun _ _ _ h => h) (Or.inl ⟨by kernel_rfl, ?ya_1⟩) (by assumption) ?_
  case ya_1 => (intro w hSw; (try dsimp only at hSw); go_simp; try with_reducible rfl)
  refine wpAnyH_take (i := 3) (v := ?va_3) rfl (by kernel_rfl) (by kernel_rfl) (by kernel_rfl) (fun _ _ _ h => h) (Or.inl ⟨by kernel_rfl, ?ya_3⟩) (by assumption) ?_
  case ya_3 => (intro w hSw; (try dsimp only at hSw); go_simp; try with_reducible rfl)
  refine wpAnyH_take (i := 4) (v := ?va_4) rfl (by kernel_rfl) (by kernel_rfl) (by kernel_rfl) (fun _ _ _ h => h) (Or.inl ⟨by kernel_rfl, ?ya_4⟩) (by assumption) ?_
  case ya_4 => (intro w hSw; (try dsimp only at hSw); go_simp; try with_reducible rfl)
  try simp only [Act.put, List.getElem_toArray, List.getElem_cons_succ, List.getElem_cons_zero, List.setIfInBounds_toArray, List.set_cons_zero, List.set_cons_succ]
  refine wpAnyH_ready (rs := [2]) (by kernel_rfl) (by simp) ?_
  refine AllReadyH.cons rfl (fun K hK => ?_) AllReadyH.nil
  go_simp
  go_at_call 34
  refine (HC.out _).mono ?_
  rintro e w2 ⟨rfl, hb2⟩
  have b2 : Below V.heap.size V w2 := (Below.refl V.heap.size V).drew.trans hb2
  have bw2 : Below W.heap.size W w2 := HBV.out.trans (b2.mono HBV.out.size)
  refine hK.out _ _ (HX.out _ (Kst.of_below b2)) (fun hHeld => ?_)
  clear hK K
  try simp only [Act.put, List.getElem_toArray, List.getElem_cons_succ, List.getElem_cons_zero, List.setIfInBounds_toArray, List.set_cons_zero, List.set_cons_succ]
  refine wpAnyH_ready (rs := [5]) (by kernel_rfl) (by simp) ?_
  refine AllReadyH.cons rfl (fun K hK => ?_) AllReadyH.nil
  go_simp
  go_at_call 35
  refine (HSe.out _ bw2).mono ?_
  rintro e w3 ⟨v, rfl, hs3, hb3⟩
  have b3 : Below V.heap.size V w3 := b2.trans (hb3.mono b2.size)
  have bw3 : Below W.heap.size W w3 := bw2.trans (hb3.mono bw2.size)
  obtain ⟨qs, cs, hvs⟩ := setsAt_len hs3
  refine hK.out _ _ (HX.out _ (Kst.of_below b3)) (fun hHeld => ?_)
  clear hK K
  have hv1 : v.oneCell' = true := by rw [hvs]; rfl
  refine wpAnyH_take (i := 6) (v := ?vb_6) rfl (by kernel_rfl) (by kernel_rfl) (by kernel_rfl) (fun _ _ _ h => h) (Or.inl ⟨by kernel_rfl, ?yb_6⟩) (by assumption) ?_
  case yb_6 => (intro w hSw; (try dsimp only at hSw); go_simp; try with_reducible rfl)
  try simp only [Act.put, List.getElem_toArray, List.getElem_cons_succ, List.getElem_cons_zero, List.setIfInBounds_toArray, List.set_cons_zero, List.set_cons_succ]
  refine wpAnyH_ready (rs := [7]) (by kernel_rfl) (by simp) ?_
  refine AllReadyH.cons rfl (fun K hK => ?_) AllReadyH.nil
  go_simp
  obtain ⟨w4, hw4⟩ : ∃ w4, w3.alloc (.cells #[.string z.nm, v, .nilFunc] 65) = w4 := ⟨_, rfl⟩
  have b4 : Below w3.heap.size w3 w4 := hw4 ▸ (Below.refl _ _).alloc (Nat.le_refl _) _
  have hz4 : w4.heap[w3.heap.size]? = some (.cells #[.string z.nm, v, .nilFunc] 65 (0, 0)) := hw4 ▸ heap_alloc_new w3 _
  obtain ⟨Z, hZ⟩ : ∃ Z, w3.heap.size = Z := ⟨_, rfl⟩
  have hs4 : SetsAt W.heap.size w4 v (setsR z.rs) := (hs3.mono bw2.size).blk b4
  have bw4 : Below W.heap.size W w4 := bw3.trans (b4.mono bw3.size)
  have hZn : W.heap.size ≤ Z := by rw [← hZ]; exact bw3.size
  have kw4 : Kst V w4 := (Kst.of_below b3).blk b4
  rw [hvs] at hw4 hz4
  rw [hw4]
  rw [hZ] at hz4 ⊢
  refine hK.out _ _ (HX.out _ kw4) (fun hHeld => ?_)
  clear hK K
  refine wpAnyH_take (i := 8) (v := ?vc_8) rfl (by kernel_rfl) (by kernel_rfl) (by kernel_rfl) (fun _ _ _ h => h) (Or.inl ⟨by kernel_rfl, ?yc_8⟩) (by assumption) ?_
  case yc_8 => (intro w hSw; (try dsimp only at hSw); go_simp; try with_reducible rfl)
  try simp only [Act.put, List.getElem_toArray, List.getElem_cons_succ, List.getElem_cons_zero, List.setIfInBounds_toArray, List.set_cons_zero, List.set_cons_succ]
  refine wpAnyH_done (by kernel_rfl) ?_ _
  have c4 : w4.cell? ⟨Z, 1, none⟩ = some (.slice qs (setsR z.rs).length cs) := by rw [So.cell_blk hz4]; rfl
  have HSC := Hid.mk (HSo.out _ _ _ hs4 bw4.size)
  rw [hvs] at HSC
  have HZ4 := Hid.mk hz4
  have HBW4 := Hid.mk bw4
  have HKW4 := Hid.mk kw4
  have HVS := Hid.mk hvs
  clear hHeld hs4 hs3 hb3 hb2 b2 bw2 b3 bw3 b4 hw4 hZ hv1 hz4 bw4 kw4 hvs
  go_wp2_with fail
  refine HSC.out.mono ?_
  rintro e w5 ⟨rfl, ⟨els, qz, cz, hzs⟩, b5, k5⟩
  have hz5 := k5.zone HZ4.out
  have hx5 := HX.out _ (HKW4.out.trans k5)
  have f5 : w5.frozen? ⟨Z, 2, none⟩ = false := by unfold World.frozen?; simp [hz5]
  have e5 : w5.cell? ⟨Z, 2, none⟩ = some .nilFunc := by rw [So.cell_blk hz5]; rfl
  have HE : Hid (∀ f, mtd z.kd = f → ZoneAt W.heap.size (w5.setCell ⟨Z, 2, none⟩ (.func (.func f) #[ptA Z 0] #[])) Z z ∧ Below W.heap.size W (w5.setCell ⟨Z, 2, none⟩ (.func (.func f) #[ptA Z 0] #[]))) := by
    rintro f rfl
    refine ⟨⟨hZn, _, els, qz, cz, ?_, hzs.set hz5 _⟩, (HBW4.out.trans b5).setCell (p := ⟨Z, 2, none⟩) hZn _⟩
    rw [hset hz5]
    rfl
  clear hzs b5 k5 hz5 HSC HZ4 HBW4 HKW4
  obtain ⟨_, _, hx1, _⟩ := hx5
  have hk5 : z.kd = 1 ∨ z.kd = 2 ∨ z.kd = 3 ∨ z.kd = 4 ∨ z.kd = 5 := by omega
  rcases hk5 with hk | hk | hk | hk | hk
  · rw [hk] at hx1
    have HF := Hid.mk (HE.out 39 (by rw [hk]; rfl))
    clear hk HE hkd
    go_wp2
    go_ret
    exact ⟨Z, rfl, HF.out⟩
  · rw [hk] at hx1
    have HF := Hid.mk (HE.out 40 (by rw [hk]; rfl))
    clear hk HE hkd
    go_wp2
    go_ret
    exact ⟨Z, rfl, HF.out⟩
  · rw [hk] at hx1
    have HF := Hid.mk (HE.out 41 (by rw [hk]; rfl))
    clear hk HE hkd
    go_wp2
    go_ret
    exact ⟨Z, rfl, HF.out⟩
  · rw [hk] at hx1
    have HF := Hid.mk (HE.out 42 (by rw [hk]; rfl))
    clear hk HE hkd
    go_wp2
    go_ret
    exact ⟨Z, rfl, HF.out⟩
  · rw [hk] at hx1
    have HF := Hid.mk (HE.out 43 (by rw [hk]; rfl))
    clear hk HE hkd
    go_wp2
    go_ret
    exact ⟨Z, rfl, HF.out⟩
end Go.Proofs.YtimnnogaiglceaaGreatDoor
/- Layer 14: zones in a map; add. -/
namespace Go.Proofs.YtimnnogaiglceaaGreatDoor
set_option linter.unusedVariables false
set_option linter.unusedSimpArgs false
open Go.RowKit
open Go.MapKept Go.WideMaps
open So (El elC SRow cmpV)
def plR : Rdr
  | .pointer none => some (.nil, [])
  | .pointer (some ⟨b, 0, none⟩) => some (.lit (.int .i64 b), [])
  | _ => none
theorem plR_nil {v : Value} {ps : List MemPlace} (h : plR v = some (.nil, ps)) : v = .pointer none := by
  unfold plR at h
  split at h
  · rfl
  · simp at h
  · simp at h
theorem plR_pt {v : Value} {ps : List MemPlace} {b : Nat} (h : plR v = some (.lit (.int .i64 b), ps)) : v = ptA b 0 := by
  unfold plR at h
  split at h
  · simp at h
  · rename_i b'
    simp at h
    have : b' = b := by omega
    rw [this]
  · simp at h
theorem keyedZ : Go.Maps.Keyed Tryz.prog 9 := Go.Maps.string_keyed Tryz.underlying9
theorem zeroZ (w : World) : (zeroValue 58).run Tryz.prog w = .ok (.pointer none) w := by kernel_rfl
noncomputable def zk (z : Lc) : List UInt8 := (nm (lowN (lb z.nm))).data.toList
noncomputable def zF (L : List (Nat × Lc)) (k : List UInt8) : Option (DataW Unit) := (L.find? fun p => decide (zk p.2 = k)).map fun p => .lit (.int .i64 (p.1 : Int))
structure Locs (N : Nat) (w : World) (X M : Nat) (L : List (Nat × Lc)) : Prop where
  nX : N ≤ X
  nM : N ≤ M
  xb : w.heap[X]? = some (.cells #[.map (some M)] 55 (0, 0))
  mp : ∃ n, n ≤ L.length ∧ MapF 9 plR w M n (zF L)
  zs : ∀ p ∈ L, ZoneAt N w p.1 p.2 ∧ IsName p.2.nm
theorem Locs.blk {N : Nat} {w w' : World} {X M : Nat} {L : List (Nat × Lc)} (h : Locs N w X M L) (hb : Below w.heap.size w w') : Locs N w' X M L where
  nX := h.nX
  nM := h.nM
  xb := (hb.block X (Array.getElem?_eq_some_iff.1 h.xb).1).trans h.xb
  mp := by obtain ⟨n, hn, hm⟩ := h.mp; exact ⟨n, hn, hm.blk hb⟩
  zs := fun p hp => ⟨(h.zs p hp).1.below hb, (h.zs p hp).2⟩
theorem Locs.c0 {N : Nat} {w : World} {X M : Nat} {L : List (Nat × Lc)} (h : Locs N w X M L) : w.cell? ⟨X, 0, none⟩ = some (.map (some M)) := by rw [So.cell_blk h.xb]; rfl
theorem Locs.look {N : Nat} {w : World} {X M : Nat} {L : List (Nat × Lc)} (h : Locs N w X M L) (k : ByteArray) (hs : k.size ≤ maxLen) : (Instr.lookup 53 (.map (some M)) (.string k) false).run Tryz.prog w = .ok (match L.find? (fun p => decide (zk p.2 = k.data.toList)) with | some p => ptA p.1 0 | none => .pointer none) w := by
  obtain ⟨n, _, hm⟩ := h.mp
  obtain ⟨v, ps, hr, hv⟩ := hm.look1 keyedZ Tryz.underlying53 (zeroZ _) (zd := .nil) (zp := []) rfl (keyOf_string_mk Tryz.underlying9 hs)
  rw [hr]
  unfold zF at hv
  cases hf : L.find? (fun p => decide (zk p.2 = k.data.toList)) with
  | none => rw [hf] at hv; rw [plR_nil hv]
  | some p => rw [hf] at hv; rw [plR_pt hv]
theorem zF_snoc (L : List (Nat × Lc)) (Z : Nat) (z : Lc) (hn : ∀ p ∈ L, zk p.2 ≠ zk z) (x : List UInt8) : zF (L ++ [(Z, z)]) x = if x = zk z then some (.lit (.int .i64 (Z : Int))) else zF L x := by
  unfold zF
  rw [List.find?_append]
  by_cases h : x = zk z
  · rw [if_pos h]
    have : L.find? (fun p => decide (zk p.2 = x)) = none := by
      rw [List.find?_eq_none]
      intro p hp
      simpa [h] using hn p hp
    rw [this]
    simp [h]
  · rw [if_neg h]
    have : [(Z, z)].find? (fun p => decide (zk p.2 = x)) = none := by
      rw [List.find?_eq_none]
      intro p hp
      obtain rfl := List.mem_singleton.1 hp
      simpa using fun e => h e.symm
    rw [this]
    simp
theorem ZoneAt.turned {N : Nat} {w w' : World} {Z : Nat} {z : Lc} (h : ZoneAt N w Z z) {M : Nat} (ht : w.mapTurned w' M) (hm : ∃ es cl, w.heap[M]? = some (.map es cl)) : ZoneAt N w' Z z := by
  obtain ⟨v, els, q, cap, hz, hs⟩ := h.blk
  refine ⟨h.nZ, v, els, q, cap, turned_cells ht hm hz, hs.v, hs.le, fun h0 => ?_, hs.rel.mono fun e s he => he.keep fun b c f _ hc => by rw [turned_cells ht hm hc, hc]⟩
  obtain ⟨g, e, hg, r, hr⟩ := hs.row h0
  exact ⟨g, e, hg, r, turned_cells ht hm hr⟩
set_option maxRecDepth 100000 in
set_option maxHeartbeats 1000000 in
theorem zadd_in (N : Nat) (W : World) (X M : Nat) (L : List (Nat × Lc)) (h : Locs N W X M L) (hl : L.length ≤ 1000000) (Z : Nat) (z : Lc) (hz : ZoneAt N W Z z) (hn : IsName z.nm) (hN : N ≤ W.heap.size) : Calls Tryz.prog 19 #[ptA X 0, ptA Z 0] W fun e w' => ((∃ p ∈ L, zk p.2 = zk z) ∧ e = .returned (.bool false) ∨ (∀ p ∈ L, zk p.2 ≠ zk z) ∧ e = .returned (.bool true) ∧ Locs N w' X M (L ++ [(Z, z)])) ∧ Below N W w' := by
  have hls := lb_ok hn
  have hsz := name_size hn
  have hlow : lowF z.nm = nm (lowN (lb z.nm)) := by
    conv => lhs; rw [hls.2]
    exact lowF_nm hls.1
  have HL := Hid.mk (nlower_in z.nm (by unfold maxLen; omega))
  rw [hlow] at HL
  have hks : (nm (lowN (lb z.nm))).size ≤ maxLen := low_size hls.1
  obtain ⟨k, hk⟩ : ∃ k, nm (lowN (lb z.nm)) = k := ⟨_, rfl⟩
  have hzk : zk z = k.data.toList := by unfold zk; rw [hk]
  rw [hk] at HL hks
  obtain ⟨v, els, q, cap, hzb, _⟩ := hz.blk
  have cz : W.cell? ⟨Z, 0, none⟩ = some (.string z.nm) := by rw [So.cell_blk hzb]; rfl
  have HH := Hid.mk h
  have HZ := Hid.mk hz
  clear h hz hzb hk hls hlow
  cases hf : L.find? (fun p => decide (zk p.2 = k.data.toList)) with
  | some p =>
    have hin : ∃ p ∈ L, zk p.2 = zk z := ⟨p, List.mem_of_find?_eq_some hf, by rw [hzk]; simpa using List.find?_some hf⟩
    have HI := Hid.mk hin
    have HLk : Hid (∀ w, Locs N w X M L → (Instr.lookup 53 (.map (some M)) (.string k) false).run Tryz.prog w = .ok (ptA p.1 0) w) := fun w hw => by rw [hw.look k hks, hf]
    clear hf hin
    go_enter Tryz.func19, Tryz.ntmps19
    go_wp2_with fail
    refine (HL.out _).mono ?_
    rintro e w1 ⟨rfl, hb1⟩
    have h1 := HH.out.blk hb1
    have lk := HLk.out _ h1
    have c1 := h1.c0
    have hbb := hb1.mono hN
    clear h1 hb1
    go_wp2
    go_ret
    exact ⟨.inl ⟨HI.out, rfl⟩, hbb⟩
  | none =>
    have hno : ∀ p ∈ L, zk p.2 ≠ zk z := fun p hp => by
      rw [hzk]
      simpa using (List.find?_eq_none.1 hf) p hp
    have HI := Hid.mk hno
    have HLk : Hid (∀ w, Locs N w X M L → (Instr.lookup 53 (.map (some M)) (.string k) false).run Tryz.prog w = .ok (.pointer none) w) := fun w hw => by rw [hw.look k hks, hf]
    have HPt : Hid (∀ w, Locs N w X M L → ZoneAt N w Z z → ∃ w', (Instr.mapUpdate 53 (.map (some M)) (.string k) (ptA Z 0)).run Tryz.prog w = .ok () w' ∧ Locs N w' X M (L ++ [(Z, z)]) ∧ Below N w w') := by
      intro w hw hzw
      obtain ⟨n, hn1, hm⟩ := hw.mp
      obtain ⟨w', hr, hm', ht⟩ := hm.put keyedZ Tryz.underlying53 (by unfold maxLen; omega) (keyOf_string_mk Tryz.underlying9 hks) (val := ptA Z 0) (d := .lit (.int .i64 (Z : Int))) (ps := []) rfl
      refine ⟨w', hr, ⟨hw.nX, hw.nM, turned_cells ht hm.isMap hw.xb, ⟨n + 1, by simp; omega, hm'.congr fun x => ?_⟩, fun p hp => ?_⟩, turned_below ht hw.nM⟩
      · rw [zF_snoc L Z z hno, hzk]
      · rcases List.mem_append.1 hp with hp | hp
        · exact ⟨(hw.zs p hp).1.turned ht hm.isMap, (hw.zs p hp).2⟩
        · obtain rfl := List.mem_singleton.1 hp
          exact ⟨hzw.turned ht hm.isMap, hn⟩
    clear hf hno
    go_enter Tryz.func19, Tryz.ntmps19
    go_wp2_with fail
    refine (HL.out _).mono ?_
    rintro e w1 ⟨rfl, hb1⟩
    have h1 := HH.out.blk hb1
    have lk := HLk.out _ h1
    have c1 := h1.c0
    obtain ⟨w2, hu, h2, hb2⟩ := HPt.out _ h1 (HZ.out.below hb1)
    have HE : Hid (Locs N w2 X M (L ++ [(Z, z)]) ∧ Below N W w2) := ⟨h2, (hb1.mono hN).trans hb2⟩
    clear h1 hb1 h2 hb2
    go_wp2
    go_ret
    exact ⟨.inr ⟨HI.out, rfl, HE.out.1⟩, HE.out.2⟩
end Go.Proofs.YtimnnogaiglceaaGreatDoor
/- Layer 14: New. -/
namespace Go.Proofs.YtimnnogaiglceaaGreatDoor
set_option linter.unusedVariables false
set_option linter.unusedSimpArgs false
open Go.RowKit
open Go.MapKept Go.WideMaps
def LcsAt (w : World) (q : Option Addr) (l : List Lc) : Prop := ∀ j (hj : j < l.length), ∃ b off qr cr, q = some ⟨b, off, none⟩ ∧ b < w.heap.size ∧ w.cell? ⟨b, off + j * 3, none⟩ = some (.string l[j].nm) ∧ w.cell? ⟨b, off + j * 3 + 1, none⟩ = some (.int .i64 l[j].kd) ∧ w.cell? ⟨b, off + j * 3 + 2, none⟩ = some (.slice qr l[j].rs.length cr) ∧ RcsAt w qr l[j].rs
theorem LcsAt.blk {w w' : World} {q : Option Addr} {l : List Lc} (h : LcsAt w q l) (hb : Below w.heap.size w w') : LcsAt w' q l := fun j hj => by
  obtain ⟨b, off, qr, cr, e, hlt, c0, c1, c2, hr⟩ := h j hj
  have key : ∀ k, w'.cell? ⟨b, k, none⟩ = w.cell? ⟨b, k, none⟩ := fun k => hb.cell (p := ⟨b, k, none⟩) hlt
  exact ⟨b, off, qr, cr, e, Nat.lt_of_lt_of_le hlt hb.size, (key _).trans c0, (key _).trans c1, (key _).trans c2, hr.blk hb⟩
def LIn (l : List Lc) : Prop := ∀ z ∈ l, z.nm.size ≤ maxLen ∧ RIn z.rs ∧ z.rs.length ≤ maxLen ∧ I64 z.kd
def okL (l : List Lc) : Prop := (∀ z ∈ l, rightR z = true) ∧ l.Pairwise fun a b => zk a ≠ zk b
structure NwS (N : Nat) (W : World) (X M : Nat) (l : List Lc) (w : World) : Prop where
  ex : ∃ L : List (Nat × Lc), L.map Prod.snd = l ∧ Locs N w X M L
  ok : okL l
  bel : Below N W w
theorem NwS.blk {N : Nat} {W w w' : World} {X M : Nat} {l : List Lc} (h : NwS N W X M l w) (hN : N ≤ w.heap.size) (hb : Below w.heap.size w w') : NwS N W X M l w' := by
  obtain ⟨L, e, hl⟩ := h.ex
  exact ⟨⟨L, e, hl.blk hb⟩, h.ok, h.bel.trans (hb.mono hN)⟩
def NewP (N : Nat) (W : World) (l : List Lc) (e : Ending) (w' : World) : Prop := (okL l ∧ (∃ X M, e = .returned (.tuple #[ptA X 0, .int .i64 0]) ∧ ∃ L : List (Nat × Lc), L.map Prod.snd = l ∧ Locs N w' X M L) ∨ ¬ okL l ∧ e = .returned (.tuple #[.pointer none, .int .i64 12])) ∧ Below N W w'
set_option maxRecDepth 100000 in
set_option maxHeartbeats 2000000 in
theorem new14_in (W : World) (q : Option Addr) (cap : Nat) (l : List Lc) (hat : LcsAt W q l) (hin : LIn l) (hl : l.length ≤ 1000000) :
    Calls Tryz.prog 7 #[.slice q l.length cap] W fun e w' => NewP W.heap.size W l e w' := by
  obtain ⟨N, hN⟩ : ∃ N, W.heap.size = N := ⟨_, rfl⟩
  have HNN := Hid.mk hN
  have HBL : Hid (∀ w i, i < l.length → Below N W w → ∃ b off, q = some ⟨b, off, none⟩ ∧ ∃ (z : Lc) (qr : Option Addr) (cr : Nat), Hid (l[i]? = some z ∧ z ∈ l ∧ RcsAt w qr z.rs) ∧ w.cell? ⟨b, off + i * 3, none⟩ = some (.string z.nm) ∧ w.cell? ⟨b, off + i * 3 + 1, none⟩ = some (.int .i64 z.kd) ∧ w.cell? ⟨b, off + i * 3 + 2, none⟩ = some (.slice qr z.rs.length cr)) := by
    intro w i hi hb
    rw [← hN] at hb
    obtain ⟨b, off, qr, cr, e, _, c0, c1, c2, hr⟩ := hat.blk hb i hi
    exact ⟨b, off, e, l[i], qr, cr, ⟨List.getElem?_eq_getElem _, List.getElem_mem hi, hr⟩, c0, c1, c2⟩
  have m1 := (MapF.made 9 plR W).congr (g := zF []) (fun s => rfl)
  have b1 : Below W.heap.size W (W.alloc (.map #[] 0)) := (Below.refl _ _).alloc (Nat.le_refl _) _
  have b2 : Below (W.alloc (.map #[] 0)).heap.size (W.alloc (.map #[] 0)) ((W.alloc (.map #[] 0)).alloc (.cells #[.map (some W.heap.size)] 55)) := (Below.refl _ _).alloc (Nat.le_refl _) _
  have hxb := heap_alloc_new (W.alloc (.map #[] 0)) (.cells #[.map (some W.heap.size)] 55)
  have M1 := m1.blk b2
  have hB := b1.trans (b2.mono (by simp))
  rw [World.size_alloc] at hxb
  rw [hN] at M1 hxb hB ⊢
  have HM0 : Hid (NwS N W (N + 1) N (l.take 0) ((W.alloc (.map #[] 0)).alloc (.cells #[.map (some N)] 55))) := by
    refine ⟨⟨[], by simp, ⟨by omega, Nat.le_refl _, hxb, ⟨0, Nat.le_refl _, M1⟩, by simp⟩⟩, ⟨by simp, by simp⟩, hB⟩
  have hmm := @run_makeMap Tryz.prog
  obtain ⟨n, hn⟩ : ∃ n, l.length = n := ⟨_, rfl⟩
  have HNL := Hid.mk hn
  have HIN := Hid.mk hin
  rw [hn] at HBL hl ⊢
  obtain ⟨X, hX⟩ : ∃ X, N + 1 = X := ⟨_, rfl⟩
  have HXe := Hid.mk hX
  clear hat hin m1 b1 b2 hxb M1 hB hn
  go_enter Tryz.func7, Tryz.ntmps7
  go_wp2
  rw [hX] at HM0
  obtain ⟨V, hV⟩ : ∃ V, (W.alloc (.map #[] 0)).alloc (.cells #[.map (some N)] 55) = V := ⟨_, rfl⟩
  rw [hV] at HM0 ⊢
  clear hV hX hmm hN
  go_loopw [12] (fun iv wr => ∃ i : Nat, i ≤ n ∧ iv = .int .i64 (i : Int) ∧ Hid (NwS N W X N (l.take i) wr)) (fun iv _ => n - (intOf iv).toNat)
  case atStart => exact ⟨0, Nat.zero_le _, rfl, HM0.out⟩
  case round =>
    obtain ⟨i, hi, rfl, HM⟩ := hrel
    by_cases hlt : i < n
    · have hlz : (i : Int) < (n : Int) := by omega
      obtain ⟨b, off, rfl, z, qr, cr, hzi, c0, c1, c2⟩ := HBL.out wr i hlt HM.out.bel
      obtain ⟨o1, o2, o3, o4⟩ := HIN.out z hzi.out.2.1
      have hNr : N ≤ wr.heap.size := by rw [← HNN.out]; exact HM.out.bel.size
      have wi : IntKind.i64.wrap ((i : Int) + 1) = ((i + 1 : Nat) : Int) := by rw [IntKind.wrap_i64]; omega
      obtain ⟨V1, hV1⟩ : ∃ V1, wr.alloc (.cells #[.string z.nm, .int .i64 z.kd, .slice qr z.rs.length cr] 26) = V1 := ⟨_, rfl⟩
      have X0 : Bx wr wr.heap.size [.string z.nm, .int .i64 z.kd, .slice qr z.rs.length cr] 26 V1 := hV1 ▸ Bx.new wr _ _
      have HV1 := Hid.mk hV1
      have MV := Hid.mk (HM.out.blk hNr X0.bel)
      have hNV : N ≤ V1.heap.size := Nat.le_trans hNr X0.bel.size
      have x0 := X0.cells3
      obtain ⟨B, hBe⟩ : ∃ B, wr.heap.size = B := ⟨_, rfl⟩
      have HB := Hid.mk hBe
      rw [hBe] at x0
      have HRi := Hid.mk (lright_in z o1 o2 qr cr V1 (hzi.out.2.2.blk X0.bel) o3)
      have HBC := Hid.mk (fun w (hb : Below V1.heap.size V1 w) => (X0.blk hb).cells3)
      have HRa : Hid (∀ w, Below V1.heap.size V1 w → RcsAt w qr z.rs) := fun w hb => (hzi.out.2.2.blk X0.bel).blk hb
      have HTk : Hid (l.take (i + 1) = l.take i ++ [z]) := by
        obtain ⟨g1, g2⟩ := List.getElem?_eq_some_iff.1 hzi.out.1
        show _ = _
        rw [List.take_succ_eq_append_getElem g1, g2]
      have HTm : Hid (∀ x, x ∈ l.take (i + 1) → x ∈ l) := fun x hx => List.mem_of_mem_take hx
      clear hV1 hBe X0
      cases hri : rightR z with
      | false =>
        rw [hri] at HRi
        have HNo : Hid (¬ okL l) := fun h => by have := h.1 z hzi.out.2.1; rw [hri] at this; cases this
        clear hri
        go_upto_region 5 with fail
        rw [HV1.out, HB.out]
        go_wp2_with fail
        refine HRi.out.mono ?_
        rintro e w2 ⟨rfl, hb2⟩
        have hbb := (MV.out.blk hNV hb2).bel
        clear hb2
        go_wp2
        go_ret2
        exact ⟨.inr ⟨HNo.out, rfl⟩, hbb⟩
      | true =>
        rw [hri] at HRi
        have HZo : Hid (∀ w, Below V1.heap.size V1 w → Calls Tryz.prog 20 #[.agg #[.string z.nm, .int .i64 z.kd, .slice qr z.rs.length cr]] w fun e w' => ∃ Z, e = .returned (ptA Z 0) ∧ ZoneAt w.heap.size w' Z z ∧ Below w.heap.size w w') := fun w hb => zoneOf_in z hri o2 qr cr w (HRa.out w hb)
        have HRt := Hid.mk hri
        have HNm := Hid.mk (zone_ty hri).1
        clear hri
        go_upto_region 5 with fail
        rw [HV1.out, HB.out]
        go_wp2_with fail
        refine HRi.out.mono ?_
        rintro e w2 ⟨rfl, hb2⟩
        have x2 := HBC.out _ hb2
        rw [HB.out] at x2
        have HZ2 := Hid.mk (HZo.out _ hb2)
        have M2 := Hid.mk (MV.out.blk hNV hb2)
        have hN2 : N ≤ w2.heap.size := Nat.le_trans hNV hb2.size
        clear hb2 x0
        go_wp2_with fail
        refine HZ2.out.mono ?_
        rintro e w3 ⟨Z, rfl, hz3, hb3⟩
        have M3 := M2.out.blk hN2 hb3
        have hN3 : N ≤ w3.heap.size := Nat.le_trans hN2 hb3.size
        have hz3' : ZoneAt N w3 Z z := by
          obtain ⟨v, els, qz, cz, e1, e2⟩ := hz3.blk
          refine ⟨Nat.le_trans hN2 hz3.nZ, v, els, qz, cz, e1, e2.v, e2.le, fun h0 => ?_, e2.rel.mono fun e s hs => ⟨hs.ls, hs.ty, hs.cl, hs.tl, hs.sv, ?_⟩⟩
          · obtain ⟨g, e, hg, hr⟩ := e2.row h0
            exact ⟨g, e, Nat.le_trans hN2 hg, hr⟩
          · obtain ⟨hl, h0 | ⟨g, cap, cur, hv, hg0, r⟩⟩ := hs.dv
            · exact ⟨hl, .inl h0⟩
            · exact ⟨hl, .inr ⟨g, cap, cur, hv, Nat.le_trans hN2 hg0, r⟩⟩
        obtain ⟨L, hLe, hL⟩ := M3.ex
        have hLl : L.length ≤ 1000000 := by
          have := congrArg List.length hLe
          rw [List.length_map, List.length_take] at this
          omega
        have HAd := Hid.mk (zadd_in N w3 X N L hL hLl Z z hz3' HNm.out hN3)
        have HM3 := Hid.mk M3
        have HLe := Hid.mk hLe
        clear hz3 hz3' hb3 M3 hL hLe x2
        go_wp2_with fail
        refine HAd.out.mono ?_
        rintro e w4 ⟨⟨⟨p, hp, hpk⟩, rfl⟩ | ⟨hno, rfl, hL4⟩, hb4⟩
        · have HNo : Hid (¬ okL l) := fun h => by
            have h2 := h.2
            rw [← List.take_append_drop (i + 1) l, HTk.out] at h2
            have h3 := (List.pairwise_append.1 (List.pairwise_append.1 h2).1).2.2 p.2 (by rw [← HLe.out]; exact List.mem_map_of_mem hp) z (by simp)
            exact h3 hpk
          have hbb := HM3.out.bel.trans hb4
          clear hpk
          go_wp2
          go_ret2
          exact ⟨.inr ⟨HNo.out, rfl⟩, hbb⟩
        · have HE : Hid (NwS N W X N (l.take (i + 1)) w4) := by
            refine ⟨⟨L ++ [(Z, z)], by rw [List.map_append, HLe.out, HTk.out]; rfl, hL4⟩, ?_, HM3.out.bel.trans hb4⟩
            rw [HTk.out]
            refine ⟨fun x hx => ?_, List.pairwise_append.2 ⟨HM3.out.ok.2, by simp, fun a ha b hb => ?_⟩⟩
            · rcases List.mem_append.1 hx with hx | hx
              · exact HM3.out.ok.1 x hx
              · obtain rfl := List.mem_singleton.1 hx; exact HRt.out
            · obtain rfl := List.mem_singleton.1 hb
              rw [← HLe.out] at ha
              obtain ⟨p, hp, rfl⟩ := List.mem_map.1 ha
              exact hno p hp
          clear hno hL4 hb4
          go_wp2
          go_roundw
          case rel => exact ⟨i + 1, by omega, by first | rfl | go_num, HE⟩
          case measure => simp [intOf]; omega
    · have hlz : ¬ (i : Int) < (n : Int) := by omega
      have HE : Hid (NwS N W X N l wr) := by
        have := HM.out
        rwa [List.take_of_length_le (by rw [HNL.out]; omega)] at this
      clear HM
      go_wp2
      go_ret2
      exact ⟨.inl ⟨HE.out.ok, X, N, rfl, HE.out.ex⟩, HE.out.bel⟩
end Go.Proofs.YtimnnogaiglceaaGreatDoor
/- Layer 14: local zones as they come in. -/
namespace Go.Proofs.YtimnnogaiglceaaGreatDoor
set_option linter.unusedVariables false
set_option linter.unusedSimpArgs false
open Go.RowKit
theorem c_lo : Tryz.prog.cellsOf 26 = 3 := by kernel_rfl
def LcAt (W : World) (cs : List Value) (z : Lc) : Prop := ∃ qr cr, cs = [.string z.nm, .int .i64 z.kd, .slice qr z.rs.length cr] ∧ RcsAt W qr z.rs
open Go.ChangeShapes Go.WideShapes in
set_option maxRecDepth 100000 in
theorem trod_lc {H : Type} {enc : TypeId × Value → H} {W : World} {fuel : Nat} {cs : List Value} {x : DataW H × List MemPlace} (h : DataW.trod enc Tryz.prog W 0 (fun _ => true) true fuel 26 cs = some x) : ∃ z : Lc, LcAt W cs z ∧ z.nm.size ≤ maxLen ∧ RIn z.rs ∧ z.rs.length ≤ maxLen ∧ I64 z.kd := by
  obtain ⟨y0, y1, y2, k, _, hlc, t0, t1, t2⟩ := Go.Deep.trod_struct3 Tryz.underlying26 h
  rw [c_lo] at hlc
  match cs, hlc with
  | [v0, v1, v2], _ =>
    have t0' : DataW.trod enc Tryz.prog W 0 (fun _ => true) true k 9 [v0] = some y0 := t0
    have t1' : DataW.trod enc Tryz.prog W 0 (fun _ => true) true k 3 [v1] = some y1 := t1
    have t2' : DataW.trod enc Tryz.prog W 0 (fun _ => true) true k 24 [v2] = some y2 := t2
    obtain ⟨s0, q0, _, w0⟩ := DataW.trod_string (t := 9) Tryz.underlying9 t0'
    obtain ⟨s1, q1, _, w1⟩ := DataW.trod_int (t := 3) (k := .i64) Tryz.underlying3 t1'
    have hv : ∃ a len cap, v2 = .slice a len cap := by
      rcases Go.Deep.open_slice Tryz.underlying24 t2' with ⟨hcs, hx⟩ | ⟨a, len', cap', m, n, D, Pl, hcs, _⟩
      · simp at hcs; exact ⟨_, _, _, hcs⟩
      · simp at hcs; exact ⟨_, _, _, hcs⟩
    obtain ⟨a, len, cap, rfl⟩ := hv
    obtain ⟨rs, hl, hat, hin, hc⟩ := open_recs t2'
    simp at q0 q1
    subst hl
    refine ⟨⟨s0, s1, rs⟩, ⟨a, cap, by rw [q0, q1], hat⟩, w0, hin, by simp only; omega, Go.bounds_i64 w1⟩
open Go.ChangeShapes Go.WideShapes in
set_option maxRecDepth 100000 in
theorem open_locs {H : Type} {enc : TypeId × Value → H} {W : World} {a0 : Option Addr} {len cap fuel : Nat} {x : DataW H × List MemPlace}
    (hf : DataW.trod enc Tryz.prog W 0 (fun _ => true) true fuel 22 [.slice a0 len cap] = some x) :
    ∃ rs : List Lc, rs.length = len ∧ LcsAt W a0 rs ∧ LIn rs ∧ (len ≤ cap ∧ cap ≤ maxLen ∧ (a0 = none → cap = 0)) := by
  rcases Go.Deep.open_slice Tryz.underlying22 hf with ⟨hcs, hx⟩ | ⟨a, len', cap', m, n, D, Pl, hcs, _, hl, hm, hmm, hx, hall⟩
  · simp at hcs
    obtain ⟨rfl, rfl, rfl⟩ := hcs
    exact ⟨[], rfl, fun j hj => by simp at hj, fun r hr => by simp at hr, by omega, by unfold maxLen; omega, fun _ => rfl⟩
  · simp at hcs
    obtain ⟨rfl, rfl, rfl⟩ := hcs
    simp only [if_true] at hmm
    subst hmm
    rw [c_lo] at hall
    obtain ⟨b, off, spot⟩ := a
    have key : ∀ i, i < len → ∃ r : Lc, (spot = none ∧ b < W.heap.size ∧ ∃ qr cr, RcsAt W qr r.rs ∧ ∀ k, k < 3 → W.cell? ⟨b, off + i * 3 + k, none⟩ = [Value.string r.nm, .int .i64 r.kd, .slice qr r.rs.length cr][k]?) ∧ (r.nm.size ≤ maxLen ∧ RIn r.rs ∧ r.rs.length ≤ maxLen ∧ I64 r.kd) := fun i hi => by
      obtain ⟨cs', h1, h2⟩ := hall i (by omega)
      obtain ⟨_, hlen, hcell⟩ := World.cells?_some h1
      obtain ⟨r, ⟨qr, cr, rfl, hat⟩, hr⟩ := trod_lc h2
      have hspot : spot = none := by
        obtain ⟨cs0, h10, _⟩ := hall 0 (by omega)
        obtain ⟨_, hl0, hc0⟩ := World.cells?_some h10
        have h00 := hc0 0 (by omega)
        rw [List.getElem?_eq_getElem (by omega)] at h00
        simpa [Addr.add] using World.cell?_spot h00
      subst hspot
      have hk : ∀ k, k < 3 → W.cell? ⟨b, off + i * 3 + k, none⟩ = [Value.string r.nm, .int .i64 r.kd, .slice qr r.rs.length cr][k]? := fun k hk => by
        have := hcell k hk
        rw [Go.Deep.add_add, lad_off, ← Nat.add_assoc] at this
        exact this
      exact ⟨r, ⟨rfl, lcellB ((hk 0 (by omega)).trans (show [Value.string r.nm, .int .i64 r.kd, .slice qr r.rs.length cr][0]? = some _ from rfl)), qr, cr, hat, hk⟩, hr⟩
    obtain ⟨ls, hlen, hr⟩ := llist_of len key
    refine ⟨ls, hlen, fun j hj => ?_, fun d hd => ?_, hl, hm, fun h => by cases h⟩
    · obtain ⟨⟨hs, hb, qr, cr, hat, hk⟩, _⟩ := hr j hj
      subst hs
      exact ⟨b, off, qr, cr, rfl, hb, hk 0 (by omega), hk 1 (by omega), hk 2 (by omega), hat⟩
    · obtain ⟨j, hj, rfl⟩ := List.getElem_of_mem hd
      exact (hr j hj).2
theorem LcsAt.take {w : World} {q : Option Addr} {l : List Lc} (h : LcsAt w q l) (k : Nat) : LcsAt w q (l.take k) := fun j hj => by
  have hj' : j < l.length := by rw [List.length_take] at hj; omega
  obtain ⟨b, off, qr, cr, e, hb, c0, c1, c2, hr⟩ := h j hj'
  have e2 : (l.take k)[j] = l[j] := List.getElem_take
  rw [e2]
  exact ⟨b, off, qr, cr, e, hb, c0, c1, c2, hr⟩
end Go.Proofs.YtimnnogaiglceaaGreatDoor
/- Layer 14: nearest, Zone. -/
namespace Go.Proofs.YtimnnogaiglceaaGreatDoor
set_option linter.unusedVariables false
set_option linter.unusedSimpArgs false
open Go.RowKit
open Classical in
noncomputable def kz (k : N3) (p : Nat × Lc) : Bool := decide (lowN (lb p.2.nm) = k)
noncomputable def nearL (L : List (Nat × Lc)) : N3 → Option (Nat × Lc)
  | [] => L.find? (kz [])
  | l :: n => match L.find? (kz (l :: n)) with | some p => some p | none => nearL L n
noncomputable def nearP (L : List (Nat × Lc)) (s : ByteArray) : Option (Nat × Lc) := if isN s then nearL L (lowN (lb s)) else none
def pV : Option (Nat × Lc) → Value
  | some p => ptA p.1 0
  | none => .pointer none
theorem find_k {N : Nat} {w : World} {X M : Nat} {L : List (Nat × Lc)} (h : Locs N w X M L) {k : N3} (hk : OkN k) : L.find? (fun p => decide (zk p.2 = (nm k).data.toList)) = L.find? (kz k) := by
  have hall : ∀ p ∈ L, decide (zk p.2 = (nm k).data.toList) = kz k p := by
    intro p hp
    classical
    have ho := (lb_ok (h.zs p hp).2).1
    unfold kz zk
    rw [Bool.eq_iff_iff, decide_eq_true_iff, decide_eq_true_iff]
    exact ⟨fun e => nm_inj ho.low hk (ba_ext e), fun e => by rw [e]⟩
  have : ∀ (l : List (Nat × Lc)), (∀ p ∈ l, decide (zk p.2 = (nm k).data.toList) = kz k p) → l.find? (fun p => decide (zk p.2 = (nm k).data.toList)) = l.find? (kz k) := by
    intro l hl
    induction l with
    | nil => rfl
    | cons a l ih => rw [List.find?_cons, List.find?_cons, hl a (by simp), ih (fun p hp => hl p (by simp [hp]))]
  exact this L hall
theorem nearL_step (L : List (Nat × Lc)) (n : N3) (h : L.find? (kz n) = none) (h0 : 0 < n.length) : nearL L n = nearL L n.tail := by
  cases n with
  | nil => simp at h0
  | cons l n => rw [nearL, h]; rfl
theorem nearL_hit (L : List (Nat × Lc)) (n : N3) {p : Nat × Lc} (h : L.find? (kz n) = some p) : nearL L n = some p := by
  cases n with
  | nil => rw [nearL, h]
  | cons l n => rw [nearL, h]
def msN (a e : Value) : Nat := match a, e with
  | .string s, .int _ c => if c = 0 then s.size + 1 else 0
  | _, _ => 0
set_option maxRecDepth 100000 in
set_option maxHeartbeats 1000000 in
theorem nearest_yes (N : Nat) (W : World) (X M : Nat) (L : List (Nat × Lc)) (h : Locs N W X M L) (ls : N3) (ho : OkN ls) : Calls Tryz.prog 26 #[ptA X 0, .string (nm ls)] W fun e w' => e = .returned (pV (nearL L (lowN ls))) ∧ Below W.heap.size W w' := by
  have HL := Hid.mk (nlower_in (nm ls) (by rw [nm_size]; have := ho.len; unfold maxLen; omega))
  rw [lowF_nm ho] at HL
  have HH := Hid.mk h
  have hol := ho.low
  obtain ⟨low, hlow⟩ : ∃ low, lowN ls = low := ⟨_, rfl⟩
  rw [hlow] at HL hol ⊢
  obtain ⟨R, hR⟩ : ∃ R, pV (nearL L low) = R := ⟨_, rfl⟩
  have HR := Hid.mk hR
  rw [hR]
  have HOL := Hid.mk hol
  clear h hlow hR hol
  go_enter Tryz.func26, Tryz.ntmps26
  go_wp2_with fail
  refine (HL.out _).mono ?_
  rintro e w1 ⟨rfl, hb1⟩
  have HB1 := Hid.mk hb1
  clear hb1
  go_wp2
  go_loopw [5, 6] (fun av ev wr => ((∃ k : N3, av = .string (nm k) ∧ ev = .int .i64 0 ∧ Hid (OkN k ∧ pV (nearL L k) = R)) ∨ (∃ c : Int, ¬ c = 0 ∧ av = .string ⟨#[]⟩ ∧ ev = .int .i64 c ∧ Hid (R = .pointer none))) ∧ Hid (Below W.heap.size W wr)) (fun av ev _ => msN av ev)
  case atStart => exact ⟨.inl ⟨low, rfl, rfl, HOL.out, HR.out⟩, HB1.out⟩
  case round =>
    obtain ⟨⟨k, rfl, rfl, HK⟩ | ⟨c, hc, rfl, rfl, HN⟩, HB⟩ := hrel
    · have hw := HH.out.blk HB.out
      have hks : (nm k).size ≤ maxLen := by rw [nm_size]; have := HK.out.1.len; unfold maxLen; omega
      have lk := hw.look (nm k) hks
      rw [find_k hw HK.out.1] at lk
      have c0 := hw.c0
      cases hf : L.find? (kz k) with
      | some p =>
        rw [hf] at lk
        have HE : Hid (R = ptA p.1 0) := by show _ = _; rw [← HK.out.2, nearL_hit L k hf]; rfl
        clear hf HK hw
        go_wp2
        go_ret
        exact ⟨by rw [HE.out]; rfl, HB.out⟩
      | none =>
        rw [hf] at lk
        cases k with
        | nil =>
          have HE : Hid (R = .pointer none) := by show _ = _; rw [← HK.out.2, nearL, hf]; rfl
          clear hf HK hw
          go_wp2_with fail
          refine (parent_root _).mono ?_
          rintro e w2 ⟨rfl, hb2⟩
          have HB2 := Hid.mk (HB.out.trans (hb2.mono HB.out.size))
          clear hb2
          go_wp2
          go_roundw
          case rel => exact ⟨.inr ⟨1, by decide, rfl, rfl, HE⟩, HB2⟩
          case measure => simp [msN]
        | cons l k =>
          have HE : Hid (OkN k ∧ pV (nearL L k) = R) := by
            refine ⟨?_, ?_⟩
            · have := HK.out.1.drop 1; simpa using this
            · rw [← HK.out.2, nearL_step L (l :: k) hf (by simp)]; rfl
          have HP := Hid.mk (parent_yes l k HK.out.1)
          have hms : Hid ((nm k).size < (nm (l :: k)).size) := by show _ < _; rw [nm_size, nm_size]; simp [flat]; omega
          clear hf HK hw
          go_wp2_with fail
          refine (HP.out _).mono ?_
          rintro e w2 ⟨rfl, hb2⟩
          have HB2 := Hid.mk (HB.out.trans (hb2.mono HB.out.size))
          clear hb2
          go_wp2
          go_roundw
          case rel => exact ⟨.inl ⟨k, rfl, rfl, HE⟩, HB2⟩
          case measure => simp [msN]; exact hms.out
    · have hcz : (c == 0) = false := by simpa using hc
      clear hc
      go_wp2
      go_ret
      exact ⟨by rw [HN.out]; rfl, HB.out⟩
set_option maxRecDepth 100000 in
set_option maxHeartbeats 1000000 in
theorem nearest_no (N : Nat) (W : World) (X M : Nat) (L : List (Nat × Lc)) (h : Locs N W X M L) (s : ByteArray) (hs : s.size ≤ maxLen) (hn : ¬ IsName s) : Calls Tryz.prog 26 #[ptA X 0, .string s] W fun e w' => e = .returned (.pointer none) ∧ Below W.heap.size W w' := by
  have HL := Hid.mk (nlower_in s hs)
  rw [lowF_no hn] at HL
  have HP := Hid.mk (parent_no s hs hn)
  have HLk : Hid (∀ w, Locs N w X M L → (Instr.lookup 53 (.map (some M)) (.string s) false).run Tryz.prog w = .ok (.pointer none) w) := by
    intro w hw
    rw [hw.look s hs]
    have : L.find? (fun p => decide (zk p.2 = s.data.toList)) = none := by
      rw [List.find?_eq_none]
      intro p hp
      simp only [decide_eq_true_eq]
      intro e
      have ho := (lb_ok (hw.zs p hp).2).1
      exact hn ⟨_, ho.low, (ba_ext e).symm⟩
    rw [this]
  have HH := Hid.mk h
  clear h hn
  go_enter Tryz.func26, Tryz.ntmps26
  go_wp2_with fail
  refine (HL.out _).mono ?_
  rintro e w1 ⟨rfl, hb1⟩
  have HB1 := Hid.mk hb1
  clear hb1
  go_wp2
  go_loopw [5, 6] (fun av ev wr => ((av = .string s ∧ ev = .int .i64 0) ∨ (av = .string ⟨#[]⟩ ∧ ev = .int .i64 2)) ∧ Hid (Below W.heap.size W wr)) (fun av ev _ => msN av ev)
  case atStart => exact ⟨.inl ⟨rfl, rfl⟩, HB1.out⟩
  case round =>
    obtain ⟨⟨rfl, rfl⟩ | ⟨rfl, rfl⟩, HB⟩ := hrel
    · have hw := HH.out.blk HB.out
      have lk := HLk.out _ hw
      have c0 := hw.c0
      clear hw
      go_wp2_with fail
      refine (HP.out _).mono ?_
      rintro e w2 ⟨rfl, hb2⟩
      have HB2 := Hid.mk (HB.out.trans (hb2.mono HB.out.size))
      clear hb2
      go_wp2
      go_roundw
      case rel => exact ⟨.inr ⟨rfl, rfl⟩, HB2⟩
      case measure => simp [msN]
    · go_wp2
      go_ret
      exact ⟨rfl, HB.out⟩
theorem nearest_in (N : Nat) (W : World) (X M : Nat) (L : List (Nat × Lc)) (h : Locs N W X M L) (s : ByteArray) (hs : s.size ≤ maxLen) : Calls Tryz.prog 26 #[ptA X 0, .string s] W fun e w' => e = .returned (pV (nearP L s)) ∧ Below W.heap.size W w' := by
  unfold nearP
  by_cases hn : IsName s
  · rw [isN_yes hn]
    obtain ⟨ho, he⟩ := lb_ok hn
    have := nearest_yes N W X M L h (lb s) ho
    rw [← he] at this
    exact this
  · rw [isN_no hn]
    exact nearest_no N W X M L h s hs hn
theorem nearL_mem {L : List (Nat × Lc)} : ∀ {n : N3} {p : Nat × Lc}, nearL L n = some p → p ∈ L
  | [], p, h => List.mem_of_find?_eq_some (by rw [nearL] at h; exact h)
  | l :: n, p, h => by
    rw [nearL] at h
    split at h
    · rename_i q hq
      cases h
      exact List.mem_of_find?_eq_some hq
    · exact nearL_mem h
theorem nearP_mem {L : List (Nat × Lc)} {s : ByteArray} {p : Nat × Lc} (h : nearP L s = some p) : p ∈ L ∧ IsName s := by
  unfold nearP at h
  split at h
  · rename_i hn; exact ⟨nearL_mem h, isN_iff.1 hn⟩
  · cases h
set_option maxRecDepth 100000 in
theorem zone14_in (N : Nat) (W : World) (X M : Nat) (L : List (Nat × Lc)) (h : Locs N W X M L) (s : ByteArray) (hs : s.size ≤ maxLen) : Calls Tryz.prog 9 #[ptA X 0, .string s] W fun e w' => e = .returned (match nearP L s with | some p => .tuple #[.string p.2.nm, .bool true] | none => .tuple #[.string ⟨#[]⟩, .bool false]) ∧ Below W.heap.size W w' := by
  have HN := Hid.mk (nearest_in N W X M L h s hs)
  have HH := Hid.mk h
  cases hf : nearP L s with
  | none =>
    rw [hf] at HN
    simp only [pV] at HN
    clear hf h
    go_enter Tryz.func9, Tryz.ntmps9
    go_wp2_with fail
    refine HN.out.mono ?_
    rintro e w1 ⟨rfl, hb1⟩
    go_wp2
    go_ret2
    exact ⟨rfl, hb1⟩
  | some p =>
    rw [hf] at HN
    simp only [pV] at HN
    have hm := (nearP_mem hf).1
    clear hf h
    go_enter Tryz.func9, Tryz.ntmps9
    go_wp2_with fail
    refine HN.out.mono ?_
    rintro e w1 ⟨rfl, hb1⟩
    obtain ⟨v, els, q, cap, hz, _⟩ := ((HH.out.blk hb1).zs p hm).1.blk
    have cz : w1.cell? ⟨p.1, 0, none⟩ = some (.string p.2.nm) := by rw [So.cell_blk hz]; rfl
    clear hz
    go_wp2
    go_ret2
    exact ⟨rfl, hb1⟩
end Go.Proofs.YtimnnogaiglceaaGreatDoor
/- Layer 14: slices.Clone of texts. -/
namespace Go.Proofs.YtimnnogaiglceaaGreatDoor
set_option linter.unusedVariables false
set_option linter.unusedSimpArgs false
open Go.RowKit
open So (El elC SRow)
def bAppE (a : Array Value) : Sem Value := Builtin.append_ #[42, 42] 42 a
theorem app_e (a : Array Value) : Builtin.append_ #[42, 42] 42 a = bAppE a := rfl
theorem eqNilS_yes (w : World) : (Go.binOp .eql 42 (.slice none 0 0) (.slice none 0 0)).run Tryz.prog w = .ok (.bool true) w := by kernel_rfl
theorem eqNilS_no (a : Addr) (n cap : Nat) (w : World) : (Go.binOp .eql 42 (.slice (some a) n cap) (.slice none 0 0)).run Tryz.prog w = .ok (.bool false) w := by kernel_rfl
section
attribute [local go_sem ↓] app_e
set_option maxRecDepth 100000 in
theorem sclone_in {N : Nat} {w : World} {v : Value} {ds : List ByteArray} (h : w.ownsRow N 9 1 v ds.length (strs ds)) (hl : ds.length ≤ 1000) :
    Calls Tryz.prog 93 #[v] w fun e w' => ∃ v', e = .returned v' ∧ w'.ownsRow w.heap.size 9 1 v' ds.length (strs ds) ∧ Below w.heap.size w w' := by
  obtain ⟨hls, ⟨rfl, h0⟩ | ⟨g, cap, cur, rfl, hb, hg, hc, hm, hs, ht⟩⟩ := h
  · obtain rfl : ds = [] := List.eq_nil_of_length_eq_zero h0
    have hq := eqNilS_yes w
    go_enter Tryz.func93, Tryz.ntmps93
    go_wp2
    go_ret
    exact ⟨_, rfl, World.ownsRow_nil .., Below.refl _ _⟩
  · obtain ⟨i0, hi0, hz0, hz1, hz2⟩ := info_parts' infoStr
    have hb : Below w.heap.size w (w.alloc (.cells #[] 9 (0, 0))) := (Below.refl _ _).alloc (Nat.le_refl _) _
    have hrow : (w.alloc (.cells #[] 9 (0, 0))).ownsRow w.heap.size 9 1 (.slice (some ⟨w.heap.size, 0, none⟩) 0 0) 0 [] :=
      ⟨rfl, .inr ⟨w.heap.size, 0, #[], rfl, Nat.le_refl _, heap_alloc_new _ _, Nat.le_refl _, by decide, rfl, rfl⟩⟩
    obtain ⟨v', w', r1, hr1, g1, _, _⟩ := run_append_own_at (P := Tryz.prog) _ w.heap.size 42 42 9 i0 _ 1 16 Tryz.underlying42 hi0 hz0 hz1 hz2 rfl (by decide) _ 0 [] hrow ⟨g, 0, none⟩ ds.length cap (strs ds) (by rw [strs_len, Nat.mul_one]) (fun j u hu => by
      have hlt : j < ds.length := by have := (List.getElem?_eq_some_iff.1 hu).1; rwa [strs_len] at this
      rw [So.add_of, Nat.zero_add, So.cell_blk ((hb.block g (Array.getElem?_eq_some_iff.1 hg).1).trans hg), ← hu, ← ht, List.getElem?_take, if_pos (by omega), Array.getElem?_toList]) (fun u hu => by
        unfold strs at hu
        obtain ⟨x, _, rfl⟩ := List.mem_map.1 hu
        rfl) (by unfold maxLen; omega) (by omega) (by simp)
    have HR : Hid (w'.ownsRow w.heap.size 9 1 v' ds.length (strs ds) ∧ Below w.heap.size w w') := by
      refine ⟨by simpa using hr1, hb.grown g1 (by simp) (fun k e => ?_)⟩
      cases e
      exact Nat.le_refl _
    have r2 : (bAppE #[.slice (some ⟨w.heap.size, 0, none⟩) 0 0, .slice (some ⟨g, 0, none⟩) ds.length cap]).run Tryz.prog (w.alloc (.cells #[] 9 (0, 0))) = .ok v' w' := r1
    clear hb hrow hr1 g1 r1 hg hs ht hm hc hls
    have hq := eqNilS_no ⟨g, 0, none⟩ ds.length cap w
    go_enter Tryz.func93, Tryz.ntmps93
    go_wp2
    go_ret
    exact ⟨_, rfl, HR.out⟩
end
def Src (w : World) (q : Option Addr) (els : List El) : Prop := 0 < els.length → ∃ g f E, q = some ⟨g, f * 6, none⟩ ∧ SRow w g E ∧ (E.drop f).take els.length = els
theorem Src.blk {w w' : World} {q : Option Addr} {els : List El} (h : Src w q els) (hb : Below w.heap.size w w') : Src w' q els := fun h0 => by
  obtain ⟨g, f, E, e, hr, hE⟩ := h h0
  exact ⟨g, f, E, e, hr.blk hb, hE⟩
theorem Src.load {w : World} {q : Option Addr} {els : List El} (h : Src w q els) (i : Nat) (hi : i < els.length) : ∃ g o, q = some ⟨g, o, none⟩ ∧ (So.stLoad (.pointer (some ⟨g, o + i * 6, none⟩))).run Tryz.prog w = .ok (.agg els[i].c.toArray) w := by
  obtain ⟨g, f, E, e, hr, hE⟩ := h (by omega)
  have hlen : f + i < E.length := by
    have := congrArg List.length hE
    rw [List.length_take, List.length_drop] at this
    omega
  refine ⟨g, f * 6, e, ?_⟩
  have := hr.load (f + i) hlen
  have e1 : E[f + i] = els[i] := by
    have h1 : els[i]? = E[f + i]? := by rw [← hE, List.getElem?_take, if_pos hi, List.getElem?_drop]
    rw [List.getElem?_eq_getElem hi, List.getElem?_eq_getElem hlen] at h1
    simpa using h1.symm
  rw [Nat.add_mul, e1] at this
  exact this
end Go.Proofs.YtimnnogaiglceaaGreatDoor