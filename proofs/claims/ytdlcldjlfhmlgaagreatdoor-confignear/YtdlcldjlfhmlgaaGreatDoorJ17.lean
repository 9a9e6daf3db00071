/- Texts of this proof, joined: LdD, LdE, LdG, LdH, LdI, LdJ. -/
import Derived.Test.YtdlcldjlfhmlgaaGreatDoorJ16
set_option linter.unusedVariables false
set_option linter.unusedSimpArgs false
/- Layer 14: zoneOf. -/
namespace Go.Proofs.YtdlcldjlfhmlgaaGreatDoor
open Go.RowKit
open So (El elC SRow cmpV)
def mtd (k : Int) : Nat := if k = 1 then 58 else if k = 2 then 59 else if k = 3 then 60 else if k = 4 then 61 else 62
structure ZoneAt (N : Nat) (w : World) (Z : Nat) (z : Lc) : Prop where
 nZ : N ≤ Z
 blk : ∃ v els q cap, w.heap[Z]? = some (.cells #[.string z.nm, v, .func (.func (mtd z.kd)) #[ptA Z 0] #[]] 92 (0, 0)) ∧ ZSets N w v (zsets z.rs) els q cap
theorem ZoneAt.below {N : Nat} {w w' : World} {Z : Nat} {z : Lc} (h : ZoneAt N w Z z) (hb : Below w.heap.size w w') : ZoneAt N w' Z z := by
 obtain ⟨v, els, q, cap, hz, hs⟩ := h.blk
 exact ⟨h.nZ, v, els, q, cap, (hb.block Z (Array.getElem?_eq_some_iff.1 hz).1).trans hz, hs.blk hb⟩
theorem zone_ty {z : Lc} (h : rightR z = true) : IsName z.nm ∧ (1 ≤ z.kd ∧ z.kd ≤ 5) ∧ z.rs.length ≤ 200 ∧ ∀ r ∈ z.rs, r.ty ≠ 46 := by
 unfold rightR at h
 simp only [Bool.and_eq_true, decide_eq_true_eq, List.all_eq_true] at h
 refine ⟨isN_iff.1 h.1.1.1.1, ⟨h.1.1.1.2, h.1.1.2⟩, h.1.2, fun r hr e => ?_⟩
 have := (h.2 r hr).1
 unfold rcR at this
 rw [e] at this
 simp at this
theorem Kst.zone {V w : World} {Z : Nat} {c : Array Value} (h : Kst V w) (hz : V.heap[Z]? = some (.cells c 92 (0, 0))) : w.heap[Z]? = some (.cells c 92 (0, 0)) := h _ _ _ _ hz (by decide) (by decide) (by decide)
theorem SetsAt.mono {N M : Nat} {w : World} {v : Value} {ss : List St} (h : SetsAt M w v ss) (hN : N ≤ M) : SetsAt N w v ss := by
 have low : ∀ {e size k : Nat} {v : Value} {l : List Value}, w.ownsRow M e size v k l → w.ownsRow N e size v k l := by
  intro e size k v l hr
  obtain ⟨hl, h0 | ⟨g, cap, cur, hv, hg0, r⟩⟩ := hr
  ·exact ⟨hl, .inl h0⟩
  ·exact ⟨hl, .inr ⟨g, cap, cur, hv, Nat.le_trans hN hg0, r⟩⟩
 obtain ⟨els, hr, hf⟩ := h
 exact ⟨els, low hr, hf.mono fun e s hs => ⟨hs.ls, hs.ty, hs.cl, hs.tl, hs.sv, low hs.dv⟩⟩
theorem SetsAt.blk {N : Nat} {w w' : World} {v : Value} {ss : List St} (h : SetsAt N w v ss) (hb : Below w.heap.size w w') : SetsAt N w' v ss := by
 obtain ⟨els, hr, hf⟩ := h
 exact ⟨els, own_blk hr hb, hf.mono fun e s hs => hs.keep fun b c f _ hc => hb.block b (Array.getElem?_eq_some_iff.1 hc).1⟩
theorem ZSets.set {N : Nat} {w : World} {v : Value} {ss : List St} {els : List El} {q : Option Addr} {cap : Nat} (h : ZSets N w v ss els q cap) {Z i : Nat} {c : Array Value} (hz : w.heap[Z]? = some (.cells c 92 (0, 0))) (x : Value) : ZSets N (w.setCell ⟨Z, i, none⟩ x) v ss els q cap where
 v := h.v
 le := h.le
 row := fun h0 => by
  obtain ⟨g, e, hg, r, hr⟩ := h.row h0
  exact ⟨g, e, hg, r, by rw [Below.heap_setCell _ _ _ _ (fun e0 => by obtain rfl : g = Z := e0; rw [hz] at hr; simp at hr)]; exact hr⟩
 rel := h.rel.mono fun e s hs => hs.keep fun b c f _ hc => Below.heap_setCell _ _ _ _ (fun e0 => by obtain rfl : b = Z := e0; rw [hz] at hc; simp at hc)
set_option maxRecDepth 100000 in
set_option maxHeartbeats 4000000 in
theorem zoneOf_in (z : Lc) (hz : rightR z = true) (hrs : RIn z.rs) (q : Option Addr) (cap : Nat) (W : World) (hat : RcsAt W q z.rs) : Calls Tryz.prog 27 #[.agg #[.string z.nm, .int .i64 z.kd, .slice q z.rs.length cap]] W fun e w' => ∃ Z, e = .returned (ptA Z 0) ∧ ZoneAt W.heap.size w' Z z ∧ Below W.heap.size W w' := by
 obtain ⟨hnm, hkd, hlen, hty⟩ := zone_ty hz
 have hro : RsOk z.rs := fun r hr => by obtain ⟨a, b, c, d⟩ := hrs r hr; exact ⟨a, b, c, d, hty r hr⟩
 have hcs := name_size hnm
 have HC := Hid.mk (clone_in z.nm · (by omega))
 have HSo := Hid.mk (fun (N : Nat) (w : World) (v : Value) (h : SetsAt N w v (setsR z.rs)) (hN : N ≤ w.heap.size) => zsort_in N w v (setsR z.rs) h (fun s hs => ((setsR_ok z.rs hrs).1 s hs).1) (Nat.le_trans (setsR_len _) hlen) hN)
 have HSe := Hid.mk (fun (w : World) (hb : Below W.heap.size W w) => sets_in w q cap z.rs (hat.blk hb) hro hlen)
 obtain ⟨n, hn⟩ : ∃ n, z.rs.length = n := ⟨_, rfl⟩
 rw [hn] at HSe ⊢
 have X0 := Bx.new W [.string z.nm, .int .i64 z.kd, .slice q n cap] 26
 obtain ⟨V, hV⟩ : ∃ V, W.alloc (.cells #[.string z.nm, .int .i64 z.kd, .slice q n cap] 26) = V := ⟨_, rfl⟩
 have X1 : Bx W W.heap.size [.string z.nm, .int .i64 z.kd, .slice q n cap] 26 V := hV ▸ X0
 have HV := Hid.mk hV
 have HBV := Hid.mk X1.bel
 have HX : Hid (∀ w, Kst V w → Kst V w ∧ w.cell? ⟨W.heap.size, 0, none⟩ = some (.string z.nm) ∧ w.cell? ⟨W.heap.size, 1, none⟩ = some (.int .i64 z.kd) ∧ w.cell? ⟨W.heap.size, 2, none⟩ = some (.slice q n cap)) := by
  intro w hk
  have e1 := hk _ _ _ _ X1.hb (by decide) (by decide) (by decide)
  exact ⟨hk, by rw [So.cell_blk e1]; rfl, by rw [So.cell_blk e1]; rfl, by rw [So.cell_blk e1]; rfl⟩
 clear hV X0 X1 hat hn hrs hro hcs hlen hty hz hnm
 go_enter Tryz.func27, Tryz.ntmps27
 go_upto_region 1 with fail
 rw [HV.out]
 refine wp_region_held_drew (S := fun w => Kst V w ∧ w.cell? ⟨W.heap.size, 0, none⟩ = some (.string z.nm) ∧ w.cell? ⟨W.heap.size, 1, none⟩ = some (.int .i64 z.kd) ∧ w.cell? ⟨W.heap.size, 2, none⟩ = some (.slice q n cap)) (by kernel_rfl) (HX.out _ (Kst.refl _).drew) (fun hHeld => ?_)
 refine wU (i := 0) (v := ?va_0) rfl ?ya_0 (by assumption) ?_
 case ya_0 => (intro w hSw; (try dsimp only at hSw); go_simp; try with_reducible rfl)
 refine wU (i := 1) (v := ?va_1) rfl ?ya_1 (by assumption) ?_
 case ya_1 => (intro w hSw; (try dsimp only at hSw); go_simp; try with_reducible rfl)
 refine wU (i := 3) (v := ?va_3) rfl ?ya_3 (by assumption) ?_
 case ya_3 => (intro w hSw; (try dsimp only at hSw); go_simp; try with_reducible rfl)
 refine wU (i := 4) (v := ?va_4) rfl ?ya_4 (by assumption) ?_
 case ya_4 => (intro w hSw; (try dsimp only at hSw); go_simp; try with_reducible rfl)
 try simp only [Act.put, List.getElem_toArray, List.getElem_cons_succ, List.getElem_cons_zero, List.setIfInBounds_toArray, List.set_cons_zero, List.set_cons_succ]
 refine wpAnyH_ready (rs := [2]) (by kernel_rfl) (by simp) ?_
 refine AllReadyH.cons rfl (fun K hK => ?_) AllReadyH.nil
 go_simp
 go_at_call 44
 refine (HC.out _).mono ?_
 rintro e w2 ⟨rfl, hb2⟩
 have b2 : Below V.heap.size V w2 := (Below.refl V.heap.size V).drew.trans hb2
 have bw2 : Below W.heap.size W w2 := HBV.out.trans (b2.mono HBV.out.size)
 refine hK.out _ _ (HX.out _ (Kst.of_below b2)) (fun hHeld => ?_)
 clear hK K
 try simp only [Act.put, List.getElem_toArray, List.getElem_cons_succ, List.getElem_cons_zero, List.setIfInBounds_toArray, List.set_cons_zero, List.set_cons_succ]
 refine wpAnyH_ready (rs := [5]) (by kernel_rfl) (by simp) ?_
 refine AllReadyH.cons rfl (fun K hK => ?_) AllReadyH.nil
 go_simp
 go_at_call 54
 refine (HSe.out _ bw2).mono ?_
 rintro e w3 ⟨v, rfl, hs3, hb3⟩
 have b3 : Below V.heap.size V w3 := b2.trans (hb3.mono b2.size)
 have bw3 : Below W.heap.size W w3 := bw2.trans (hb3.mono bw2.size)
 obtain ⟨qs, cs, hvs⟩ := setsAt_len hs3
 refine hK.out _ _ (HX.out _ (Kst.of_below b3)) (fun hHeld => ?_)
 clear hK K
 have hv1 : v.oneCell' = true := by rw [hvs]; rfl
 refine wU (i := 6) (v := ?vb_6) rfl ?yb_6 (by assumption) ?_
 case yb_6 => (intro w hSw; (try dsimp only at hSw); go_simp; try with_reducible rfl)
 try simp only [Act.put, List.getElem_toArray, List.getElem_cons_succ, List.getElem_cons_zero, List.setIfInBounds_toArray, List.set_cons_zero, List.set_cons_succ]
 refine wpAnyH_ready (rs := [7]) (by kernel_rfl) (by simp) ?_
 refine AllReadyH.cons rfl (fun K hK => ?_) AllReadyH.nil
 go_simp
 obtain ⟨w4, hw4⟩ : ∃ w4, w3.alloc (.cells #[.string z.nm, v, .nilFunc] 92) = w4 := ⟨_, rfl⟩
 have b4 : Below w3.heap.size w3 w4 := hw4 ▸ (Below.refl _ _).alloc (Nat.le_refl _) _
 have hz4 : w4.heap[w3.heap.size]? = some (.cells #[.string z.nm, v, .nilFunc] 92 (0, 0)) := hw4 ▸ heap_alloc_new w3 _
 obtain ⟨Z, hZ⟩ : ∃ Z, w3.heap.size = Z := ⟨_, rfl⟩
 have hs4 : SetsAt W.heap.size w4 v (setsR z.rs) := (hs3.mono bw2.size).blk b4
 have bw4 : Below W.heap.size W w4 := bw3.trans (b4.mono bw3.size)
 have hZn : W.heap.size ≤ Z := by rw [← hZ]; exact bw3.size
 have kw4 : Kst V w4 := (Kst.of_below b3).blk b4
 rw [hvs] at hw4 hz4
 rw [hw4]
 rw [hZ] at hz4 ⊢
 refine hK.out _ _ (HX.out _ kw4) (fun hHeld => ?_)
 clear hK K
 refine wU (i := 8) (v := ?vc_8) rfl ?yc_8 (by assumption) ?_
 case yc_8 => (intro w hSw; (try dsimp only at hSw); go_simp; try with_reducible rfl)
 try simp only [Act.put, List.getElem_toArray, List.getElem_cons_succ, List.getElem_cons_zero, List.setIfInBounds_toArray, List.set_cons_zero, List.set_cons_succ]
 refine wpAnyH_done (by kernel_rfl) ?_ _
 have c4 : w4.cell? ⟨Z, 1, none⟩ = some (.slice qs (setsR z.rs).length cs) := by rw [So.cell_blk hz4]; rfl
 have HSC := Hid.mk (HSo.out _ _ _ hs4 bw4.size)
 rw [hvs] at HSC
 have HZ4 := Hid.mk hz4
 have HBW4 := Hid.mk bw4
 have HKW4 := Hid.mk kw4
 have HVS := Hid.mk hvs
 clear hHeld hs4 hs3 hb3 hb2 b2 bw2 b3 bw3 b4 hw4 hZ hv1 hz4 bw4 kw4 hvs
 go_wp2_with fail
 refine HSC.out.mono ?_
 rintro e w5 ⟨rfl, ⟨els, qz, cz, hzs⟩, b5, k5⟩
 have hz5 := k5.zone HZ4.out
 have hx5 := HX.out _ (HKW4.out.trans k5)
 have f5 : w5.frozen? ⟨Z, 2, none⟩ = false := by unfold World.frozen?; simp [hz5]
 have e5 : w5.cell? ⟨Z, 2, none⟩ = some .nilFunc := by rw [So.cell_blk hz5]; rfl
 have HE : Hid (∀ f, mtd z.kd = f → ZoneAt W.heap.size (w5.setCell ⟨Z, 2, none⟩ (.func (.func f) #[ptA Z 0] #[])) Z z ∧ Below W.heap.size W (w5.setCell ⟨Z, 2, none⟩ (.func (.func f) #[ptA Z 0] #[]))) := by
  rintro f rfl
  refine ⟨⟨hZn, _, els, qz, cz, ?_, hzs.set hz5 _⟩, (HBW4.out.trans b5).setCell (p := ⟨Z, 2, none⟩) hZn _⟩
  rw [hset hz5]
  rfl
 clear hzs b5 k5 hz5 HSC HZ4 HBW4 HKW4
 obtain ⟨_, _, hx1, _⟩ := hx5
 have hk5 : z.kd = 1 ∨ z.kd = 2 ∨ z.kd = 3 ∨ z.kd = 4 ∨ z.kd = 5 := by omega
 rcases hk5 with hk | hk | hk | hk | hk
 ·rw [hk] at hx1
  have HF := Hid.mk (HE.out 58 (by rw [hk]; rfl))
  clear hk HE hkd
  go_wp2
  go_ret
  exact ⟨Z, rfl, HF.out⟩
 ·rw [hk] at hx1
  have HF := Hid.mk (HE.out 59 (by rw [hk]; rfl))
  clear hk HE hkd
  go_wp2
  go_ret
  exact ⟨Z, rfl, HF.out⟩
 ·rw [hk] at hx1
  have HF := Hid.mk (HE.out 60 (by rw [hk]; rfl))
  clear hk HE hkd
  go_wp2
  go_ret
  exact ⟨Z, rfl, HF.out⟩
 ·rw [hk] at hx1
  have HF := Hid.mk (HE.out 61 (by rw [hk]; rfl))
  clear hk HE hkd
  go_wp2
  go_ret
  exact ⟨Z, rfl, HF.out⟩
 ·rw [hk] at hx1
  have HF := Hid.mk (HE.out 62 (by rw [hk]; rfl))
  clear hk HE hkd
  go_wp2
  go_ret
  exact ⟨Z, rfl, HF.out⟩
end Go.Proofs.YtdlcldjlfhmlgaaGreatDoor
/- Layer 14: zones in a map; add. -/
namespace Go.Proofs.YtdlcldjlfhmlgaaGreatDoor
open Go.RowKit
open Go.MapKept Go.WideMaps
open So (El elC SRow cmpV)
def plR : Rdr
 | .pointer none => some (.nil, [])
 | .pointer (some ⟨b, 0, none⟩) => some (.lit (.int .i64 b), [])
 | _ => none
theorem plR_nil {v : Value} {ps : List MemPlace} (h : plR v = some (.nil, ps)) : v = .pointer none := by
 unfold plR at h
 split at h
 ·rfl
 ·simp at h
 ·simp at h
theorem plR_pt {v : Value} {ps : List MemPlace} {b : Nat} (h : plR v = some (.lit (.int .i64 b), ps)) : v = ptA b 0 := by
 unfold plR at h
 split at h
 ·simp at h
 ·rename_i b'
  simp at h
  have : b' = b := by omega
  rw [this]
 ·simp at h
theorem keyedZ : Go.Maps.Keyed Tryz.prog 9 := Go.Maps.string_keyed Tryz.underlying9
theorem zeroZ (w : World) : (zeroValue 85).run Tryz.prog w = .ok (.pointer none) w := by kernel_rfl
noncomputable def zk (z : Lc) : List UInt8 := (nm (lowN (lb z.nm))).data.toList
noncomputable def zF (L : List (Nat × Lc)) (k : List UInt8) : Option (DataW Unit) := (L.find? fun p => decide (zk p.2 = k)).map fun p => .lit (.int .i64 (p.1 : Int))
structure Locs (N : Nat) (w : World) (X M : Nat) (L : List (Nat × Lc)) : Prop where
 nX : N ≤ X
 nM : N ≤ M
 xb : w.heap[X]? = some (.cells #[.map (some M)] 82 (0, 0))
 mp : ∃ n, n ≤ L.length ∧ MapF 9 plR w M n (zF L)
 zs : ∀ p ∈ L, ZoneAt N w p.1 p.2 ∧ IsName p.2.nm
theorem Locs.blk {N : Nat} {w w' : World} {X M : Nat} {L : List (Nat × Lc)} (h : Locs N w X M L) (hb : Below w.heap.size w w') : Locs N w' X M L where
 nX := h.nX
 nM := h.nM
 xb := (hb.block X (Array.getElem?_eq_some_iff.1 h.xb).1).trans h.xb
 mp := by obtain ⟨n, hn, hm⟩ := h.mp; exact ⟨n, hn, hm.blk hb⟩
 zs := fun p hp => ⟨(h.zs p hp).1.below hb, (h.zs p hp).2⟩
theorem Locs.c0 {N : Nat} {w : World} {X M : Nat} {L : List (Nat × Lc)} (h : Locs N w X M L) : w.cell? ⟨X, 0, none⟩ = some (.map (some M)) := by rw [So.cell_blk h.xb]; rfl
theorem Locs.look {N : Nat} {w : World} {X M : Nat} {L : List (Nat × Lc)} (h : Locs N w X M L) (k : ByteArray) (hs : k.size ≤ maxLen) : (Instr.lookup 80 (.map (some M)) (.string k) false).run Tryz.prog w = .ok (match L.find? (fun p => decide (zk p.2 = k.data.toList)) with | some p => ptA p.1 0 | none => .pointer none) w := by
 obtain ⟨n, _, hm⟩ := h.mp
 obtain ⟨v, ps, hr, hv⟩ := hm.look1 keyedZ Tryz.underlying80 (zeroZ _) (zd := .nil) (zp := []) rfl (keyOf_string_mk Tryz.underlying9 hs)
 rw [hr]
 unfold zF at hv
 cases hf : L.find? (fun p => decide (zk p.2 = k.data.toList)) with
 | none => rw [hf] at hv; rw [plR_nil hv]
 | some p => rw [hf] at hv; rw [plR_pt hv]
theorem zF_snoc (L : List (Nat × Lc)) (Z : Nat) (z : Lc) (hn : ∀ p ∈ L, zk p.2 ≠ zk z) (x : List UInt8) : zF (L ++ [(Z, z)]) x = if x = zk z then some (.lit (.int .i64 (Z : Int))) else zF L x := by
 unfold zF
 rw [List.find?_append]
 by_cases h : x = zk z
 ·rw [if_pos h]
  have : L.find? (fun p => decide (zk p.2 = x)) = none := by
   rw [List.find?_eq_none]
   intro p hp
   simpa [h] using hn p hp
  rw [this]
  simp [h]
 ·rw [if_neg h]
  have : [(Z, z)].find? (fun p => decide (zk p.2 = x)) = none := by
   rw [List.find?_eq_none]
   intro p hp
   obtain rfl := List.mem_singleton.1 hp
   simpa using fun e => h e.symm
  rw [this]
  simp
theorem ZoneAt.turned {N : Nat} {w w' : World} {Z : Nat} {z : Lc} (h : ZoneAt N w Z z) {M : Nat} (ht : w.mapTurned w' M) (hm : ∃ es cl, w.heap[M]? = some (.map es cl)) : ZoneAt N w' Z z := by
 obtain ⟨v, els, q, cap, hz, hs⟩ := h.blk
 refine ⟨h.nZ, v, els, q, cap, turned_cells ht hm hz, hs.v, hs.le, fun h0 => ?_, hs.rel.mono fun e s he => he.keep fun b c f _ hc => by rw [turned_cells ht hm hc, hc]⟩
 obtain ⟨g, e, hg, r, hr⟩ := hs.row h0
 exact ⟨g, e, hg, r, turned_cells ht hm hr⟩
set_option maxRecDepth 100000 in
set_option maxHeartbeats 1000000 in
theorem zadd_in (N : Nat) (W : World) (X M : Nat) (L : List (Nat × Lc)) (h : Locs N W X M L) (hl : L.length ≤ 9223372036854775806) (Z : Nat) (z : Lc) (hz : ZoneAt N W Z z) (hn : IsName z.nm) (hN : N ≤ W.heap.size) : Calls Tryz.prog 26 #[ptA X 0, ptA Z 0] W fun e w' => ((∃ p ∈ L, zk p.2 = zk z) ∧ e = .returned (.bool false) ∨ (∀ p ∈ L, zk p.2 ≠ zk z) ∧ e = .returned (.bool true) ∧ Locs N w' X M (L ++ [(Z, z)])) ∧ Below N W w' := by
 have hls := lb_ok hn
 have hsz := name_size hn
 have hlow : lowF z.nm = nm (lowN (lb z.nm)) := by
  conv => lhs; rw [hls.2]
  exact lowF_nm hls.1
 have HL := Hid.mk (nlower_in z.nm (by unfold maxLen; omega))
 rw [hlow] at HL
 have hks : (nm (lowN (lb z.nm))).size ≤ maxLen := low_size hls.1
 obtain ⟨k, hk⟩ : ∃ k, nm (lowN (lb z.nm)) = k := ⟨_, rfl⟩
 have hzk : zk z = k.data.toList := by unfold zk; rw [hk]
 rw [hk] at HL hks
 obtain ⟨v, els, q, cap, hzb, _⟩ := hz.blk
 have cz : W.cell? ⟨Z, 0, none⟩ = some (.string z.nm) := by rw [So.cell_blk hzb]; rfl
 have HH := Hid.mk h
 have HZ := Hid.mk hz
 clear h hz hzb hk hls hlow
 cases hf : L.find? (fun p => decide (zk p.2 = k.data.toList)) with
 | some p =>
  have hin : ∃ p ∈ L, zk p.2 = zk z := ⟨p, List.mem_of_find?_eq_some hf, by rw [hzk]; simpa using List.find?_some hf⟩
  have HI := Hid.mk hin
  have HLk : Hid (∀ w, Locs N w X M L → (Instr.lookup 80 (.map (some M)) (.string k) false).run Tryz.prog w = .ok (ptA p.1 0) w) := fun w hw => by rw [hw.look k hks, hf]
  clear hf hin
  go_enter Tryz.func26, Tryz.ntmps26
  go_wp2_with fail
  refine (HL.out _).mono ?_
  rintro e w1 ⟨rfl, hb1⟩
  have h1 := HH.out.blk hb1
  have lk := HLk.out _ h1
  have c1 := h1.c0
  have hbb := hb1.mono hN
  clear h1 hb1
  go_wp2
  go_ret
  exact ⟨.inl ⟨HI.out, rfl⟩, hbb⟩
 | none =>
  have hno : ∀ p ∈ L, zk p.2 ≠ zk z := fun p hp => by
   rw [hzk]
   simpa using (List.find?_eq_none.1 hf) p hp
  have HI := Hid.mk hno
  have HLk : Hid (∀ w, Locs N w X M L → (Instr.lookup 80 (.map (some M)) (.string k) false).run Tryz.prog w = .ok (.pointer none) w) := fun w hw => by rw [hw.look k hks, hf]
  have HPt : Hid (∀ w, Locs N w X M L → ZoneAt N w Z z → ∃ w', (Instr.mapUpdate 80 (.map (some M)) (.string k) (ptA Z 0)).run Tryz.prog w = .ok () w' ∧ Locs N w' X M (L ++ [(Z, z)]) ∧ Below N w w') := by
   intro w hw hzw
   obtain ⟨n, hn1, hm⟩ := hw.mp
   obtain ⟨w', hr, hm', ht⟩ := hm.put keyedZ Tryz.underlying80 (by unfold maxLen; omega) (keyOf_string_mk Tryz.underlying9 hks) (val := ptA Z 0) (d := .lit (.int .i64 (Z : Int))) (ps := []) rfl
   refine ⟨w', hr, ⟨hw.nX, hw.nM, turned_cells ht hm.isMap hw.xb, ⟨n + 1, by simp; omega, hm'.congr fun x => ?_⟩, fun p hp => ?_⟩, turned_below ht hw.nM⟩
   ·rw [zF_snoc L Z z hno, hzk]
   ·rcases List.mem_append.1 hp with hp | hp
    ·exact ⟨(hw.zs p hp).1.turned ht hm.isMap, (hw.zs p hp).2⟩
    ·obtain rfl := List.mem_singleton.1 hp
     exact ⟨hzw.turned ht hm.isMap, hn⟩
  clear hf hno
  go_enter Tryz.func26, Tryz.ntmps26
  go_wp2_with fail
  refine (HL.out _).mono ?_
  rintro e w1 ⟨rfl, hb1⟩
  have h1 := HH.out.blk hb1
  have lk := HLk.out _ h1
  have c1 := h1.c0
  obtain ⟨w2, hu, h2, hb2⟩ := HPt.out _ h1 (HZ.out.below hb1)
  have HE : Hid (Locs N w2 X M (L ++ [(Z, z)]) ∧ Below N W w2) := ⟨h2, (hb1.mono hN).trans hb2⟩
  clear h1 hb1 h2 hb2
  go_wp2
  go_ret
  exact ⟨.inr ⟨HI.out, rfl, HE.out.1⟩, HE.out.2⟩
end Go.Proofs.YtdlcldjlfhmlgaaGreatDoor
/- Layer 14: nearest, Zone. -/
namespace Go.Proofs.YtdlcldjlfhmlgaaGreatDoor
open Go.RowKit
open Classical in
noncomputable def kz (k : N3) (p : Nat × Lc) : Bool := decide (lowN (lb p.2.nm) = k)
end Go.Proofs.YtdlcldjlfhmlgaaGreatDoor
/- Layer 14: slices.Clone of texts. -/
namespace Go.Proofs.YtdlcldjlfhmlgaaGreatDoor
open Go.RowKit
open So (El elC SRow)
def bAppE (a : Array Value) : Sem Value := Builtin.append_ #[42, 42] 42 a
theorem app_e (a : Array Value) : Builtin.append_ #[42, 42] 42 a = bAppE a := rfl
section
attribute [local go_sem ↓] app_e
end
end Go.Proofs.YtdlcldjlfhmlgaaGreatDoor
/- Layer 14: chosen. -/
namespace Go.Proofs.YtdlcldjlfhmlgaaGreatDoor
open Go.RowKit
open So (El elC SRow)
attribute [local go_sem ↓] app_s
end Go.Proofs.YtdlcldjlfhmlgaaGreatDoor
/- Layer 14: slices.BinarySearchFunc at sets. -/
namespace Go.Proofs.YtdlcldjlfhmlgaaGreatDoor
open Go.RowKit
open So (El elC SRow)
attribute [local go_sem ↓] So.loadAt_st
end Go.Proofs.YtdlcldjlfhmlgaaGreatDoor
