/- Texts of this proof, joined: LdD, LdE, LdG, LdH, LdI, LdJ. -/
import Derived.Test.YtdlcldjlfhmlgaaGreatDoorJ16
set_option linter.unusedVariables false
set_option linter.unusedSimpArgs false
/- Layer 14: zoneOf. -/
namespace Go.Proofs.YtdlcldjlfhmlgaaGreatDoor
open Go.RowKit
open So (El elC SRow cmpV)
def mtd (k : Int) : Nat := if k = 1 then 58 else if k = 2 then 59 else if k = 3 then 60 else if k = 4 then 61 else 62
structure ZoneAt (N : Nat) (w : World) (Z : Nat) (z : Lc) : Prop where
 nZ : N ≤ Z
 blk : ∃ v els q cap, w.heap[Z]? = some (.cells #[.string z.nm, v, .func (.func (mtd z.kd)) #[ptA Z 0] #[]] 92 (0, 0)) ∧ ZSets N w v (zsets z.rs) els q cap
theorem ZoneAt.below {N : Nat} {w w' : World} {Z : Nat} {z : Lc} (h : ZoneAt N w Z z) (hb : Below w.heap.size w w') : ZoneAt N w' Z z := by
 obtain ⟨v, els, q, cap, hz, hs⟩ := h.blk
 exact ⟨h.nZ, v, els, q, cap, (hb.block Z (Array.getElem?_eq_some_iff.1 hz).1).trans hz, hs.blk hb⟩
theorem zone_ty {z : Lc} (h : rightR z = true) : IsName z.nm ∧ (1 ≤ z.kd ∧ z.kd ≤ 5) ∧ z.rs.length ≤ 200 ∧ ∀ r ∈ z.rs, r.ty ≠ 46 := by
 unfold rightR at h
 simp only [Bool.and_eq_true, decide_eq_true_eq, List.all_eq_true] at h
 refine ⟨isN_iff.1 h.1.1.1.1, ⟨h.1.1.1.2, h.1.1.2⟩, h.1.2, fun r hr e => ?_⟩
 have := (h.2 r hr).1
 unfold rcR at this
 rw [e] at this
 simp at this
theorem Kst.zone {V w : World} {Z : Nat} {c : Array Value} (h : Kst V w) (hz : V.heap[Z]? = some (.cells c 92 (0, 0))) : w.heap[Z]? = some (.cells c 92 (0, 0)) := h _ _ _ _ hz (by decide) (by decide) (by decide)
theorem SetsAt.mono {N M : Nat} {w : World} {v : Value} {ss : List St} (h : SetsAt M w v ss) (hN : N ≤ M) : SetsAt N w v ss := by
 have low : ∀ {e size k : Nat} {v : Value} {l : List Value}, w.ownsRow M e size v k l → w.ownsRow N e size v k l := by
  intro e size k v l hr
  obtain ⟨hl, h0 | ⟨g, cap, cur, hv, hg0, r⟩⟩ := hr
  ·exact ⟨hl, .inl h0⟩
  ·exact ⟨hl, .inr ⟨g, cap, cur, hv, Nat.le_trans hN hg0, r⟩⟩
 obtain ⟨els, hr, hf⟩ := h
 exact ⟨els, low hr, hf.mono fun e s hs => ⟨hs.ls, hs.ty, hs.cl, hs.tl, hs.sv, low hs.dv⟩⟩
theorem SetsAt.blk {N : Nat} {w w' : World} {v : Value} {ss : List St} (h : SetsAt N w v ss) (hb : Below w.heap.size w w') : SetsAt N w' v ss := by
 obtain ⟨els, hr, hf⟩ := h
 exact ⟨els, own_blk hr hb, hf.mono fun e s hs => hs.keep fun b c f _ hc => hb.block b (Array.getElem?_eq_some_iff.1 hc).1⟩
theorem ZSets.set {N : Nat} {w : World} {v : Value} {ss : List St} {els : List El} {q : Option Addr} {cap : Nat} (h : ZSets N w v ss els q cap) {Z i : Nat} {c : Array Value} (hz : w.heap[Z]? = some (.cells c 92 (0, 0))) (x : Value) : ZSets N (w.setCell ⟨Z, i, none⟩ x) v ss els q cap where
 v := h.v
 le := h.le
 row := fun h0 => by
  obtain ⟨g, e, hg, r, hr⟩ := h.row h0
  exact ⟨g, e, hg, r, by rw [Below.heap_setCell _ _ _ _ (fun e0 => by obtain rfl : g = Z := e0; rw [hz] at hr; simp at hr)]; exact hr⟩
 rel := h.rel.mono fun e s hs => hs.keep fun b c f _ hc => Below.heap_setCell _ _ _ _ (fun e0 => by obtain rfl : b = Z := e0; rw [hz] at hc; simp at hc)
set_option maxRecDepth 100000 in
set_option maxHeartbeats 4000000 in
theorem zoneOf_in (z : Lc) (hz : rightR z = true) (hrs : RIn z.rs) (q : Option Addr) (cap : Nat) (W : World) (hat : RcsAt W q z.rs) : Calls Tryz.prog 27 #[.agg #[.string z.nm, .int .i64 z.kd, .slice q z.rs.length cap]] W fun e w' => ∃ Z, e = .returned (ptA Z 0) ∧ ZoneAt W.heap.size w' Z z ∧ Below W.heap.size W w' := by
 obtain ⟨hnm, hkd, hlen, hty⟩ := zone_ty hz
 have hro : RsOk z.rs := fun r hr => by obtain ⟨a, b, c, d⟩ := hrs r hr; exact ⟨a, b, c, d, hty r hr⟩
 have hcs := name_size hnm
 have HC := Hid.mk (clone_in z.nm · (by omega))
 have HSo := Hid.mk (fun (N : Nat) (w : World) (v : Value) (h : SetsAt N w v (setsR z.rs)) (hN : N ≤ w.heap.size) => zsort_in N w v (setsR z.rs) h (fun s hs => ((setsR_ok z.rs hrs).1 s hs).1) (Nat.le_trans (setsR_len _) hlen) hN)
 have HSe := Hid.mk (fun (w : World) (hb : Below W.heap.size W w) => sets_in w q cap z.rs (hat.blk hb) hro hlen)
 obtain ⟨n, hn⟩ : ∃ n, z.rs.length = n := ⟨_, rfl⟩
 rw [hn] at HSe ⊢
 have X0 := Bx.new W [.string z.nm, .int .i64 z.kd, .slice q n cap] 26
 obtain ⟨V, hV⟩ : ∃ V, W.alloc (.cells #[.string z.nm, .int .i64 z.kd, .slice q n cap] 26) = V := ⟨_, rfl⟩
 have X1 : Bx W W.heap.size [.string z.nm, .int .i64 z.kd, .slice q n cap] 26 V := hV ▸ X0
 have HV := Hid.mk hV
 have HBV := Hid.mk X1.bel
 have HX : Hid (∀ w, Kst V w → Kst V w ∧ w.cell? ⟨W.heap.size, 0, none⟩ = some (.string z.nm) ∧ w.cell? ⟨W.heap.size, 1, none⟩ = some (.int .i64 z.kd) ∧ w.cell? ⟨W.heap.size, 2, none⟩ = some (.slice q n cap)) := by
  intro w hk
  have e1 := hk _ _ _ _ X1.hb (by decide) (by decide) (by decide)
  exact ⟨hk, by rw [So.cell_blk e1]; rfl, by rw [So.cell_blk e1]; rfl, by rw [So.cell_blk e1]; rfl⟩
 clear hV X0 X1 hat hn hrs hro hcs hlen hty hz hnm
 go_enter Tryz.func27, Tryz.ntmps27
 go_upto_region 1 with fail
 rw [HV.out]
 refine wp_region_held_drew (S := fun w => Kst V w ∧ w.cell? ⟨W.heap.size, 0, none⟩ = some (.string z.nm) ∧ w.cell? ⟨W.heap.size, 1, none⟩ = some (.int .i64 z.kd) ∧ w.cell? ⟨W.heap.size, 2, none⟩ = some (.slice q n cap)) (by kernel_rfl) (HX.out _ (Kst.refl _).drew) (fun hHeld => ?_)
 refine wU (i := 0) (v := ?va_0) rfl ?ya_0 (by assumption) ?_
 case ya_0 => (intro w hSw; (try dsimp only at hSw); go_simp; try with_reducible rfl)
 refine wU (i := 1) (v := ?va_1) rfl ?ya_1 (by assumption) ?_
 case ya_1 => (intro w hSw; (try dsimp only at hSw); go_simp; try with_reducible rfl)
 refine wU (i := 3) (v := ?va_3) rfl ?ya_3 (by assumption) ?_
 case ya_3 => (intro w hSw; (try dsimp only at hSw); go_simp; try with_reducible rfl)
 refine wU (i := 4) (v := ?va_4) rfl ?ya_4 (by assumption) ?_
 case ya_4 => (intro w hSw; (try dsimp only at hSw); go_simp; try with_reducible rfl)
 try simp only [Act.put, List.getElem_toArray, List.getElem_cons_succ, List.getElem_cons_zero, List.setIfInBounds_toArray, List.set_cons_zero, List.set_cons_succ]
 refine wpAnyH_ready (rs := [2]) (by kernel_rfl) (by simp) ?_
 refine AllReadyH.cons rfl (fun K hK => ?_) AllReadyH.nil
 go_simp
 go_at_call 44
 refine (HC.out _).mono ?_
 rintro e w2 ⟨rfl, hb2⟩
 have b2 : Below V.heap.size V w2 := (Below.refl V.heap.size V).drew.trans hb2
 have bw2 : Below W.heap.size W w2 := HBV.out.trans (b2.mono HBV.out.size)
 refine hK.out _ _ (HX.out _ (Kst.of_below b2)) (fun hHeld => ?_)
 clear hK K
 try simp only [Act.put, List.getElem_toArray, List.getElem_cons_succ, List.getElem_cons_zero, List.setIfInBounds_toArray, List.set_cons_zero, List.set_cons_succ]
 refine wpAnyH_ready (rs := [5]) (by kernel_rfl) (by simp) ?_
 refine AllReadyH.cons rfl (fun K hK => ?_) AllReadyH.nil
 go_simp
 go_at_call 54
 refine (HSe.out _ bw2).mono ?_
 rintro e w3 ⟨v, rfl, hs3, hb3⟩
 have b3 : Below V.heap.size V w3 := b2.trans (hb3.mono b2.size)
 have bw3 : Below W.heap.size W w3 := bw2.trans (hb3.mono bw2.size)
 obtain ⟨qs, cs, hvs⟩ := setsAt_len hs3
 refine hK.out _ _ (HX.out _ (Kst.of_below b3)) (fun hHeld => ?_)
 clear hK K
 have hv1 : v.oneCell' = true := by rw [hvs]; rfl
 refine wU (i := 6) (v := ?vb_6) rfl ?yb_6 (by assumption) ?_
 case yb_6 => (intro w hSw; (try dsimp only at hSw); go_simp; try with_reducible rfl)
 try simp only [Act.put, List.getElem_toArray, List.getElem_cons_succ, List.getElem_cons_zero, List.setIfInBounds_toArray, List.set_cons_zero, List.set_cons_succ]
 refine wpAnyH_ready (rs := [7]) (by kernel_rfl) (by simp) ?_
 refine AllReadyH.cons rfl (fun K hK => ?_) AllReadyH.nil
 go_simp
 obtain ⟨w4, hw4⟩ : ∃ w4, w3.alloc (.cells #[.string z.nm, v, .nilFunc] 92) = w4 := ⟨_, rfl⟩
 have b4 : Below w3.heap.size w3 w4 := hw4 ▸ (Below.refl _ _).alloc (Nat.le_refl _) _
 have hz4 : w4.heap[w3.heap.size]? = some (.cells #[.string z.nm, v, .nilFunc] 92 (0, 0)) := hw4 ▸ heap_alloc_new w3 _
 obtain ⟨Z, hZ⟩ : ∃ Z, w3.heap.size = Z := ⟨_, rfl⟩
 have hs4 : SetsAt W.heap.size w4 v (setsR z.rs) := (hs3.mono bw2.size).blk b4
 have bw4 : Below W.heap.size W w4 := bw3.trans (b4.mono bw3.size)
 have hZn : W.heap.size ≤ Z := by rw [← hZ]; exact bw3.size
 have kw4 : Kst V w4 := (Kst.of_below b3).blk b4
 rw [hvs] at hw4 hz4
 rw [hw4]
 rw [hZ] at hz4 ⊢
 refine hK.out _ _ (HX.out _ kw4) (fun hHeld => ?_)
 clear hK K
 refine wU (i := 8) (v := ?vc_8) rfl ?yc_8 (by assumption) ?_
 case yc_8 => (intro w hSw; (try dsimp only at hSw); go_simp; try with_reducible rfl)
 try simp only [Act.put, List.getElem_toArray, List.getElem_cons_succ, List.getElem_cons_zero, List.setIfInBounds_toArray, List.set_cons_zero, List.set_cons_succ]
 refine wpAnyH_done (by kernel_rfl) ?_ _
 have c4 : w4.cell? ⟨Z, 1, none⟩ = some (.slice qs (setsR z.rs).length cs) := by rw [So.cell_blk hz4]; rfl
 have HSC := Hid.mk (HSo.out _ _ _ hs4 bw4.size)
 rw [hvs] at HSC
 have HZ4 := Hid.mk hz4
 have HBW4 := Hid.mk bw4
 have HKW4 := Hid.mk kw4
 have HVS := Hid.mk hvs
 clear hHeld hs4 hs3 hb3 hb2 b2 bw2 b3 bw3 b4 hw4 hZ hv1 hz4 bw4 kw4 hvs
 go_wp2_with fail
 refine HSC.out.mono ?_
 rintro e w5 ⟨rfl, ⟨els, qz, cz, hzs⟩, b5, k5⟩
 have hz5 := k5.zone HZ4.out
 have hx5 := HX.out _ (HKW4.out.trans k5)
 have f5 : w5.frozen? ⟨Z, 2, none⟩ = false := by unfold World.frozen?; simp [hz5]
 have e5 : w5.cell? ⟨Z, 2, none⟩ = some .nilFunc := by rw [So.cell_blk hz5]; rfl
 have HE : Hid (∀ f, mtd z.kd = f → ZoneAt W.heap.size (w5.setCell ⟨Z, 2, none⟩ (.func (.func f) #[ptA Z 0] #[])) Z z ∧ Below W.heap.size W (w5.setCell ⟨Z, 2, none⟩ (.func (.func f) #[ptA Z 0] #[]))) := by
  rintro f rfl
  refine ⟨⟨hZn, _, els, qz, cz, ?_, hzs.set hz5 _⟩, (HBW4.out.trans b5).setCell (p := ⟨Z, 2, none⟩) hZn _⟩
  rw [hset hz5]
  rfl
 clear hzs b5 k5 hz5 HSC HZ4 HBW4 HKW4
 obtain ⟨_, _, hx1, _⟩ := hx5
 have hk5 : z.kd = 1 ∨ z.kd = 2 ∨ z.kd = 3 ∨ z.kd = 4 ∨ z.kd = 5 := by omega
 rcases hk5 with hk | hk | hk | hk | hk
 ·rw [hk] at hx1
  have HF := Hid.mk (HE.out 58 (by rw [hk]; rfl))
  clear hk HE hkd
  go_wp2
  go_ret
  exact ⟨Z, rfl, HF.out⟩
 ·rw [hk] at hx1
  have HF := Hid.mk (HE.out 59 (by rw [hk]; rfl))
  clear hk HE hkd
  go_wp2
  go_ret
  exact ⟨Z, rfl, HF.out⟩
 ·rw [hk] at hx1
  have HF := Hid.mk (HE.out 60 (by rw [hk]; rfl))
  clear hk HE hkd
  go_wp2
  go_ret
  exact ⟨Z, rfl, HF.out⟩
 ·rw [hk] at hx1
  have HF := Hid.mk (HE.out 61 (by rw [hk]; rfl))
  clear hk HE hkd
  go_wp2
  go_ret
  exact ⟨Z, rfl, HF.out⟩
 ·rw [hk] at hx1
  have HF := Hid.mk (HE.out 62 (by rw [hk]; rfl))
  clear hk HE hkd
  go_wp2
  go_ret
  exact ⟨Z, rfl, HF.out⟩
end Go.Proofs.YtdlcldjlfhmlgaaGreatDoor
/- Layer 14: zones in a map; add. -/
namespace Go.Proofs.YtdlcldjlfhmlgaaGreatDoor
open Go.RowKit
open Go.MapKept Go.WideMaps
open So (El elC SRow cmpV)
def plR : Rdr
 | .pointer none => some (.nil, [])
 | .pointer (some ⟨b, 0, none⟩) => some (.lit (.int .i64 b), [])
 | _ => none
theorem plR_nil {v : Value} {ps : List MemPlace} (h : plR v = some (.nil, ps)) : v = .pointer none := by
 unfold plR at h
 split at h
 ·rfl
 ·simp at h
 ·simp at h
theorem plR_pt {v : Value} {ps : List MemPlace} {b : Nat} (h : plR v = some (.lit (.int .i64 b), ps)) : v = ptA b 0 := by
 unfold plR at h
 split at h
 ·simp at h
 ·rename_i b'
  simp at h
  have : b' = b := by omega
  rw [this]
 ·simp at h
theorem keyedZ : Go.Maps.Keyed Tryz.prog 9 := Go.Maps.string_keyed Tryz.underlying9
theorem zeroZ (w : World) : (zeroValue 85).run Tryz.prog w = .ok (.pointer none) w := by kernel_rfl
noncomputable def zk (z : Lc) : List UInt8 := (nm (lowN (lb z.nm))).data.toList
noncomputable def zF (L : List (Nat × Lc)) (k : List UInt8) : Option (DataW Unit) := (L.find? fun p => decide (zk p.2 = k)).map fun p => .lit (.int .i64 (p.1 : Int))
structure Locs (N : Nat) (w : World) (X M : Nat) (L : List (Nat × Lc)) : Prop where
 nX : N ≤ X
 nM : N ≤ M
 xb : w.heap[X]? = some (.cells #[.map (some M)] 82 (0, 0))
 mp : ∃ n, n ≤ L.length ∧ MapF 9 plR w M n (zF L)
 zs : ∀ p ∈ L, ZoneAt N w p.1 p.2 ∧ IsName p.2.nm
theorem Locs.blk {N : Nat} {w w' : World} {X M : Nat} {L : List (Nat × Lc)} (h : Locs N w X M L) (hb : Below w.heap.size w w') : Locs N w' X M L where
 nX := h.nX
 nM := h.nM
 xb := (hb.block X (Array.getElem?_eq_some_iff.1 h.xb).1).trans h.xb
 mp := by obtain ⟨n, hn, hm⟩ := h.mp; exact ⟨n, hn, hm.blk hb⟩
 zs := fun p hp => ⟨(h.zs p hp).1.below hb, (h.zs p hp).2⟩
theorem Locs.c0 {N : Nat} {w : World} {X M : Nat} {L : List (Nat × Lc)} (h : Locs N w X M L) : w.cell? ⟨X, 0, none⟩ = some (.map (some M)) := by rw [So.cell_blk h.xb]; rfl
theorem Locs.look {N : Nat} {w : World} {X M : Nat} {L : List (Nat × Lc)} (h : Locs N w X M L) (k : ByteArray) (hs : k.size ≤ maxLen) : (Instr.lookup 80 (.map (some M)) (.string k) false).run Tryz.prog w = .ok (match L.find? (fun p => decide (zk p.2 = k.data.toList)) with | some p => ptA p.1 0 | none => .pointer none) w := by
 obtain ⟨n, _, hm⟩ := h.mp
 obtain ⟨v, ps, hr, hv⟩ := hm.look1 keyedZ Tryz.underlying80 (zeroZ _) (zd := .nil) (zp := []) rfl (keyOf_string_mk Tryz.underlying9 hs)
 rw [hr]
 unfold zF at hv
 cases hf : L.find? (fun p => decide (zk p.2 = k.data.toList)) with
 | none => rw [hf] at hv; rw [plR_nil hv]
 | some p => rw [hf] at hv; rw [plR_pt hv]
theorem zF_snoc (L : List (Nat × Lc)) (Z : Nat) (z : Lc) (hn : ∀ p ∈ L, zk p.2 ≠ zk z) (x : List UInt8) : zF (L ++ [(Z, z)]) x = if x = zk z then some (.lit (.int .i64 (Z : Int))) else zF L x := by
 unfold zF
 rw [List.find?_append]
 by_cases h : x = zk z
 ·rw [if_pos h]
  have : L.find? (fun p => decide (zk p.2 = x)) = none := by
   rw [List.find?_eq_none]
   intro p hp
   simpa [h] using hn p hp
  rw [this]
  simp [h]
 ·rw [if_neg h]
  have : [(Z, z)].find? (fun p => decide (zk p.2 = x)) = none := by
   rw [List.find?_eq_none]
   intro p hp
   obtain rfl := List.mem_singleton.1 hp
   simpa using fun e => h e.symm
  rw [this]
  simp
theorem ZoneAt.turned {N : Nat} {w w' : World} {Z : Nat} {z : Lc} (h : ZoneAt N w Z z) {M : Nat} (ht : w.mapTurned w' M) (hm : ∃ es cl, w.heap[M]? = some (.map es cl)) : ZoneAt N w' Z z := by
 obtain ⟨v, els, q, cap, hz, hs⟩ := h.blk
 refine ⟨h.nZ, v, els, q, cap, turned_cells ht hm hz, hs.v, hs.le, fun h0 => ?_, hs.rel.mono fun e s he => he.keep fun b c f _ hc => by rw [turned_cells ht hm hc, hc]⟩
 obtain ⟨g, e, hg, r, hr⟩ := hs.row h0
 exact ⟨g, e, hg, r, turned_cells ht hm hr⟩
set_option maxRecDepth 100000 in
set_option maxHeartbeats 1000000 in
theorem zadd_in (N : Nat) (W : World) (X M : Nat) (L : List (Nat × Lc)) (h : Locs N W X M L) (hl : L.length ≤ 9223372036854775806) (Z : Nat) (z : Lc) (hz : ZoneAt N W Z z) (hn : IsName z.nm) (hN : N ≤ W.heap.size) : Calls Tryz.prog 26 #[ptA X 0, ptA Z 0] W fun e w' => ((∃ p ∈ L, zk p.2 = zk z) ∧ e = .returned (.bool false) ∨ (∀ p ∈ L, zk p.2 ≠ zk z) ∧ e = .returned (.bool true) ∧ Locs N w' X M (L ++ [(Z, z)])) ∧ Below N W w' := by
 have hls := lb_ok hn
 have hsz := name_size hn
 have hlow : lowF z.nm = nm (lowN (lb z.nm)) := by
  conv => lhs; rw [hls.2]
  exact lowF_nm hls.1
 have HL := Hid.mk (nlower_in z.nm (by unfold maxLen; omega))
 rw [hlow] at HL
 have hks : (nm (lowN (lb z.nm))).size ≤ maxLen := low_size hls.1
 obtain ⟨k, hk⟩ : ∃ k, nm (lowN (lb z.nm)) = k := ⟨_, rfl⟩
 have hzk : zk z = k.data.toList := by unfold zk; rw [hk]
 rw [hk] at HL hks
 obtain ⟨v, els, q, cap, hzb, _⟩ := hz.blk
 have cz : W.cell? ⟨Z, 0, none⟩ = some (.string z.nm) := by rw [So.cell_blk hzb]; rfl
 have HH := Hid.mk h
 have HZ := Hid.mk hz
 clear h hz hzb hk hls hlow
 cases hf : L.find? (fun p => decide (zk p.2 = k.data.toList)) with
 | some p =>
  have hin : ∃ p ∈ L, zk p.2 = zk z := ⟨p, List.mem_of_find?_eq_some hf, by rw [hzk]; simpa using List.find?_some hf⟩
  have HI := Hid.mk hin
  have HLk : Hid (∀ w, Locs N w X M L → (Instr.lookup 80 (.map (some M)) (.string k) false).run Tryz.prog w = .ok (ptA p.1 0) w) := fun w hw => by rw [hw.look k hks, hf]
  clear hf hin
  go_enter Tryz.func26, Tryz.ntmps26
  go_wp2_with fail
  refine (HL.out _).mono ?_
  rintro e w1 ⟨rfl, hb1⟩
  have h1 := HH.out.blk hb1
  have lk := HLk.out _ h1
  have c1 := h1.c0
  have hbb := hb1.mono hN
  clear h1 hb1
  go_wp2
  go_ret
  exact ⟨.inl ⟨HI.out, rfl⟩, hbb⟩
 | none =>
  have hno : ∀ p ∈ L, zk p.2 ≠ zk z := fun p hp => by
   rw [hzk]
   simpa using (List.find?_eq_none.1 hf) p hp
  have HI := Hid.mk hno
  have HLk : Hid (∀ w, Locs N w X M L → (Instr.lookup 80 (.map (some M)) (.string k) false).run Tryz.prog w = .ok (.pointer none) w) := fun w hw => by rw [hw.look k hks, hf]
  have HPt : Hid (∀ w, Locs N w X M L → ZoneAt N w Z z → ∃ w', (Instr.mapUpdate 80 (.map (some M)) (.string k) (ptA Z 0)).run Tryz.prog w = .ok () w' ∧ Locs N w' X M (L ++ [(Z, z)]) ∧ Below N w w') := by
   intro w hw hzw
   obtain ⟨n, hn1, hm⟩ := hw.mp
   obtain ⟨w', hr, hm', ht⟩ := hm.put keyedZ Tryz.underlying80 (by unfold maxLen; omega) (keyOf_string_mk Tryz.underlying9 hks) (val := ptA Z 0) (d := .lit (.int .i64 (Z : Int))) (ps := []) rfl
   refine ⟨w', hr, ⟨hw.nX, hw.nM, turned_cells ht hm.isMap hw.xb, ⟨n + 1, by simp; omega, hm'.congr fun x => ?_⟩, fun p hp => ?_⟩, turned_below ht hw.nM⟩
   ·rw [zF_snoc L Z z hno, hzk]
   ·rcases List.mem_append.1 hp with hp | hp
    ·exact ⟨(hw.zs p hp).1.turned ht hm.isMap, (hw.zs p hp).2⟩
    ·obtain rfl := List.mem_singleton.1 hp
     exact ⟨hzw.turned ht hm.isMap, hn⟩
  clear hf hno
  go_enter Tryz.func26, Tryz.ntmps26
  go_wp2_with fail
  refine (HL.out _).mono ?_
  rintro e w1 ⟨rfl, hb1⟩
  have h1 := HH.out.blk hb1
  have lk := HLk.out _ h1
  have c1 := h1.c0
  obtain ⟨w2, hu, h2, hb2⟩ := HPt.out _ h1 (HZ.out.below hb1)
  have HE : Hid (Locs N w2 X M (L ++ [(Z, z)]) ∧ Below N W w2) := ⟨h2, (hb1.mono hN).trans hb2⟩
  clear h1 hb1 h2 hb2
  go_wp2
  go_ret
  exact ⟨.inr ⟨HI.out, rfl, HE.out.1⟩, HE.out.2⟩
end Go.Proofs.YtdlcldjlfhmlgaaGreatDoor
/- Layer 14: nearest, Zone. -/
namespace Go.Proofs.YtdlcldjlfhmlgaaGreatDoor
open Go.RowKit
open Classical in
noncomputable def kz (k : N3) (p : Nat × Lc) : Bool := decide (lowN (lb p.2.nm) = k)
noncomputable def nearL (L : List (Nat × Lc)) : N3 → Option (Nat × Lc)
 | [] => L.find? (kz [])
 | l :: n => match L.find? (kz (l :: n)) with | some p => some p | none => nearL L n
noncomputable def nearP (L : List (Nat × Lc)) (s : ByteArray) : Option (Nat × Lc) := if isN s then nearL L (lowN (lb s)) else none
def pV : Option (Nat × Lc) → Value
 | some p => ptA p.1 0
 | none => .pointer none
theorem find_k {N : Nat} {w : World} {X M : Nat} {L : List (Nat × Lc)} (h : Locs N w X M L) {k : N3} (hk : OkN k) : L.find? (fun p => decide (zk p.2 = (nm k).data.toList)) = L.find? (kz k) := by
 have hall : ∀ p ∈ L, decide (zk p.2 = (nm k).data.toList) = kz k p := by
  intro p hp
  classical
  have ho := (lb_ok (h.zs p hp).2).1
  unfold kz zk
  rw [Bool.eq_iff_iff, decide_eq_true_iff, decide_eq_true_iff]
  exact ⟨fun e => nm_inj ho.low hk (ba_ext e), fun e => by rw [e]⟩
 have : ∀ (l : List (Nat × Lc)), (∀ p ∈ l, decide (zk p.2 = (nm k).data.toList) = kz k p) → l.find? (fun p => decide (zk p.2 = (nm k).data.toList)) = l.find? (kz k) := by
  intro l hl
  induction l with
  | nil => rfl
  | cons a l ih => rw [List.find?_cons, List.find?_cons, hl a (by simp), ih (fun p hp => hl p (by simp [hp]))]
 exact this L hall
theorem nearL_step (L : List (Nat × Lc)) (n : N3) (h : L.find? (kz n) = none) (h0 : 0 < n.length) : nearL L n = nearL L n.tail := by
 cases n with
 | nil => simp at h0
 | cons l n => rw [nearL, h]; rfl
theorem nearL_hit (L : List (Nat × Lc)) (n : N3) {p : Nat × Lc} (h : L.find? (kz n) = some p) : nearL L n = some p := by
 cases n with
 | nil => rw [nearL, h]
 | cons l n => rw [nearL, h]
def msN (a e : Value) : Nat := match a, e with
 | .string s, .int _ c => if c = 0 then s.size + 1 else 0
 | _, _ => 0
set_option maxRecDepth 100000 in
set_option maxHeartbeats 1000000 in
theorem nearest_yes (N : Nat) (W : World) (X M : Nat) (L : List (Nat × Lc)) (h : Locs N W X M L) (ls : N3) (ho : OkN ls) : Calls Tryz.prog 33 #[ptA X 0, .string (nm ls)] W fun e w' => e = .returned (pV (nearL L (lowN ls))) ∧ Below W.heap.size W w' := by
 have HL := Hid.mk (nlower_in (nm ls) (by rw [nm_size]; have := ho.len; unfold maxLen; omega))
 rw [lowF_nm ho] at HL
 have HH := Hid.mk h
 have hol := ho.low
 obtain ⟨low, hlow⟩ : ∃ low, lowN ls = low := ⟨_, rfl⟩
 rw [hlow] at HL hol ⊢
 obtain ⟨R, hR⟩ : ∃ R, pV (nearL L low) = R := ⟨_, rfl⟩
 have HR := Hid.mk hR
 rw [hR]
 have HOL := Hid.mk hol
 clear h hlow hR hol
 go_enter Tryz.func33, Tryz.ntmps33
 go_wp2_with fail
 refine (HL.out _).mono ?_
 rintro e w1 ⟨rfl, hb1⟩
 have HB1 := Hid.mk hb1
 clear hb1
 go_wp2
 go_loopw [5, 6] (fun av ev wr => ((∃ k : N3, av = .string (nm k) ∧ ev = .int .i64 0 ∧ Hid (OkN k ∧ pV (nearL L k) = R)) ∨ (∃ c : Int, ¬ c = 0 ∧ av = .string ⟨#[]⟩ ∧ ev = .int .i64 c ∧ Hid (R = .pointer none))) ∧ Hid (Below W.heap.size W wr)) (fun av ev _ => msN av ev)
 case atStart => exact ⟨.inl ⟨low, rfl, rfl, HOL.out, HR.out⟩, HB1.out⟩
 case round =>
  obtain ⟨⟨k, rfl, rfl, HK⟩ | ⟨c, hc, rfl, rfl, HN⟩, HB⟩ := hrel
  ·have hw := HH.out.blk HB.out
   have hks : (nm k).size ≤ maxLen := by rw [nm_size]; have := HK.out.1.len; unfold maxLen; omega
   have lk := hw.look (nm k) hks
   rw [find_k hw HK.out.1] at lk
   have c0 := hw.c0
   cases hf : L.find? (kz k) with
   | some p =>
    rw [hf] at lk
    have HE : Hid (R = ptA p.1 0) := by show _ = _; rw [← HK.out.2, nearL_hit L k hf]; rfl
    clear hf HK hw
    go_wp2
    go_ret
    exact ⟨by rw [HE.out]; rfl, HB.out⟩
   | none =>
    rw [hf] at lk
    cases k with
    | nil =>
     have HE : Hid (R = .pointer none) := by show _ = _; rw [← HK.out.2, nearL, hf]; rfl
     clear hf HK hw
     go_wp2_with fail
     refine (parent_root _).mono ?_
     rintro e w2 ⟨rfl, hb2⟩
     have HB2 := Hid.mk (HB.out.trans (hb2.mono HB.out.size))
     clear hb2
     go_wp2
     go_roundw
     case rel => exact ⟨.inr ⟨1, by decide, rfl, rfl, HE⟩, HB2⟩
     case measure => simp [msN]
    | cons l k =>
     have HE : Hid (OkN k ∧ pV (nearL L k) = R) := by
      refine ⟨?_, ?_⟩
      ·have := HK.out.1.drop 1; simpa using this
      ·rw [← HK.out.2, nearL_step L (l :: k) hf (by simp)]; rfl
     have HP := Hid.mk (parent_yes l k HK.out.1)
     have hms : Hid ((nm k).size < (nm (l :: k)).size) := by show _ < _; rw [nm_size, nm_size]; simp [flat]; omega
     clear hf HK hw
     go_wp2_with fail
     refine (HP.out _).mono ?_
     rintro e w2 ⟨rfl, hb2⟩
     have HB2 := Hid.mk (HB.out.trans (hb2.mono HB.out.size))
     clear hb2
     go_wp2
     go_roundw
     case rel => exact ⟨.inl ⟨k, rfl, rfl, HE⟩, HB2⟩
     case measure => simp [msN]; exact hms.out
  ·have hcz : (c == 0) = false := by simpa using hc
   clear hc
   go_wp2
   go_ret
   exact ⟨by rw [HN.out]; rfl, HB.out⟩
set_option maxRecDepth 100000 in
set_option maxHeartbeats 1000000 in
theorem nearest_no (N : Nat) (W : World) (X M : Nat) (L : List (Nat × Lc)) (h : Locs N W X M L) (s : ByteArray) (hs : s.size ≤ maxLen) (hn : ¬ IsName s) : Calls Tryz.prog 33 #[ptA X 0, .string s] W fun e w' => e = .returned (.pointer none) ∧ Below W.heap.size W w' := by
 have HL := Hid.mk (nlower_in s hs)
 rw [lowF_no hn] at HL
 have HP := Hid.mk (parent_no s hs hn)
 have HLk : Hid (∀ w, Locs N w X M L → (Instr.lookup 80 (.map (some M)) (.string s) false).run Tryz.prog w = .ok (.pointer none) w) := by
  intro w hw
  rw [hw.look s hs]
  have : L.find? (fun p => decide (zk p.2 = s.data.toList)) = none := by
   rw [List.find?_eq_none]
   intro p hp
   simp only [decide_eq_true_eq]
   intro e
   have ho := (lb_ok (hw.zs p hp).2).1
   exact hn ⟨_, ho.low, (ba_ext e).symm⟩
  rw [this]
 have HH := Hid.mk h
 clear h hn
 go_enter Tryz.func33, Tryz.ntmps33
 go_wp2_with fail
 refine (HL.out _).mono ?_
 rintro e w1 ⟨rfl, hb1⟩
 have HB1 := Hid.mk hb1
 clear hb1
 go_wp2
 go_loopw [5, 6] (fun av ev wr => ((av = .string s ∧ ev = .int .i64 0) ∨ (av = .string ⟨#[]⟩ ∧ ev = .int .i64 2)) ∧ Hid (Below W.heap.size W wr)) (fun av ev _ => msN av ev)
 case atStart => exact ⟨.inl ⟨rfl, rfl⟩, HB1.out⟩
 case round =>
  obtain ⟨⟨rfl, rfl⟩ | ⟨rfl, rfl⟩, HB⟩ := hrel
  ·have hw := HH.out.blk HB.out
   have lk := HLk.out _ hw
   have c0 := hw.c0
   clear hw
   go_wp2_with fail
   refine (HP.out _).mono ?_
   rintro e w2 ⟨rfl, hb2⟩
   have HB2 := Hid.mk (HB.out.trans (hb2.mono HB.out.size))
   clear hb2
   go_wp2
   go_roundw
   case rel => exact ⟨.inr ⟨rfl, rfl⟩, HB2⟩
   case measure => simp [msN]
  ·go_wp2
   go_ret
   exact ⟨rfl, HB.out⟩
theorem nearest_in (N : Nat) (W : World) (X M : Nat) (L : List (Nat × Lc)) (h : Locs N W X M L) (s : ByteArray) (hs : s.size ≤ maxLen) : Calls Tryz.prog 33 #[ptA X 0, .string s] W fun e w' => e = .returned (pV (nearP L s)) ∧ Below W.heap.size W w' := by
 unfold nearP
 by_cases hn : IsName s
 ·rw [isN_yes hn]
  obtain ⟨ho, he⟩ := lb_ok hn
  have := nearest_yes N W X M L h (lb s) ho
  rw [← he] at this
  exact this
 ·rw [isN_no hn]
  exact nearest_no N W X M L h s hs hn
theorem nearL_mem {L : List (Nat × Lc)} : ∀ {n : N3} {p : Nat × Lc}, nearL L n = some p → p ∈ L
 | [], p, h => List.mem_of_find?_eq_some (by rw [nearL] at h; exact h)
 | l :: n, p, h => by
  rw [nearL] at h
  split at h
  ·rename_i q hq
   cases h
   exact List.mem_of_find?_eq_some hq
  ·exact nearL_mem h
theorem nearP_mem {L : List (Nat × Lc)} {s : ByteArray} {p : Nat × Lc} (h : nearP L s = some p) : p ∈ L ∧ IsName s := by
 unfold nearP at h
 split at h
 ·rename_i hn; exact ⟨nearL_mem h, isN_iff.1 hn⟩
 ·cases h
set_option maxRecDepth 100000 in
theorem zone14_in (N : Nat) (W : World) (X M : Nat) (L : List (Nat × Lc)) (h : Locs N W X M L) (s : ByteArray) (hs : s.size ≤ maxLen) : Calls Tryz.prog 11 #[ptA X 0, .string s] W fun e w' => e = .returned (match nearP L s with | some p => .tuple #[.string p.2.nm, .bool true] | none => .tuple #[.string ⟨#[]⟩, .bool false]) ∧ Below W.heap.size W w' := by
 have HN := Hid.mk (nearest_in N W X M L h s hs)
 have HH := Hid.mk h
 cases hf : nearP L s with
 | none =>
  rw [hf] at HN
  simp only [pV] at HN
  clear hf h
  go_enter Tryz.func11, Tryz.ntmps11
  go_wp2_with fail
  refine HN.out.mono ?_
  rintro e w1 ⟨rfl, hb1⟩
  go_wp2
  go_ret2
  exact ⟨rfl, hb1⟩
 | some p =>
  rw [hf] at HN
  simp only [pV] at HN
  have hm := (nearP_mem hf).1
  clear hf h
  go_enter Tryz.func11, Tryz.ntmps11
  go_wp2_with fail
  refine HN.out.mono ?_
  rintro e w1 ⟨rfl, hb1⟩
  obtain ⟨v, els, q, cap, hz, _⟩ := ((HH.out.blk hb1).zs p hm).1.blk
  have cz : w1.cell? ⟨p.1, 0, none⟩ = some (.string p.2.nm) := by rw [So.cell_blk hz]; rfl
  clear hz
  go_wp2
  go_ret2
  exact ⟨rfl, hb1⟩
end Go.Proofs.YtdlcldjlfhmlgaaGreatDoor
/- Layer 14: slices.Clone of texts. -/
namespace Go.Proofs.YtdlcldjlfhmlgaaGreatDoor
open Go.RowKit
open So (El elC SRow)
def bAppE (a : Array Value) : Sem Value := Builtin.append_ #[42, 42] 42 a
theorem app_e (a : Array Value) : Builtin.append_ #[42, 42] 42 a = bAppE a := rfl
theorem eqNilS_yes (w : World) : (Go.binOp .eql 42 (.slice none 0 0) (.slice none 0 0)).run Tryz.prog w = .ok (.bool true) w := by kernel_rfl
theorem eqNilS_no (a : Addr) (n cap : Nat) (w : World) : (Go.binOp .eql 42 (.slice (some a) n cap) (.slice none 0 0)).run Tryz.prog w = .ok (.bool false) w := by kernel_rfl
section
attribute [local go_sem ↓] app_e
set_option maxRecDepth 100000 in
theorem sclone_in {N : Nat} {w : World} {v : Value} {ds : List ByteArray} (h : w.ownsRow N 9 1 v ds.length (strs ds)) (hl : ds.length ≤ 1000) :
  Calls Tryz.prog 126 #[v] w fun e w' => ∃ v', e = .returned v' ∧ w'.ownsRow w.heap.size 9 1 v' ds.length (strs ds) ∧ Below w.heap.size w w' := by
 obtain ⟨hls, ⟨rfl, h0⟩ | ⟨g, cap, cur, rfl, hb, hg, hc, hm, hs, ht⟩⟩ := h
 ·obtain rfl : ds = [] := List.eq_nil_of_length_eq_zero h0
  have hq := eqNilS_yes w
  go_enter Tryz.func126, Tryz.ntmps126
  go_wp2
  go_ret
  exact ⟨_, rfl, World.ownsRow_nil .., Below.refl _ _⟩
 ·obtain ⟨i0, hi0, hz0, hz1, hz2⟩ := info_parts' infoStr
  have hb : Below w.heap.size w (w.alloc (.cells #[] 9 (0, 0))) := (Below.refl _ _).alloc (Nat.le_refl _) _
  have hrow : (w.alloc (.cells #[] 9 (0, 0))).ownsRow w.heap.size 9 1 (.slice (some ⟨w.heap.size, 0, none⟩) 0 0) 0 [] :=
   ⟨rfl, .inr ⟨w.heap.size, 0, #[], rfl, Nat.le_refl _, heap_alloc_new _ _, Nat.le_refl _, by decide, rfl, rfl⟩⟩
  obtain ⟨v', w', r1, hr1, g1, _, _⟩ := run_append_own_at (P := Tryz.prog) _ w.heap.size 42 42 9 i0 _ 1 16 Tryz.underlying42 hi0 hz0 hz1 hz2 rfl (by decide) _ 0 [] hrow ⟨g, 0, none⟩ ds.length cap (strs ds) (by rw [strs_len, Nat.mul_one]) (fun j u hu => by
   have hlt : j < ds.length := by have := (List.getElem?_eq_some_iff.1 hu).1; rwa [strs_len] at this
   rw [So.add_of, Nat.zero_add, So.cell_blk ((hb.block g (Array.getElem?_eq_some_iff.1 hg).1).trans hg), ← hu, ← ht, List.getElem?_take, if_pos (by omega), Array.getElem?_toList]) (fun u hu => by
    unfold strs at hu
    obtain ⟨x, _, rfl⟩ := List.mem_map.1 hu
    rfl) (by unfold maxLen; omega) (by omega) (by simp)
  have HR : Hid (w'.ownsRow w.heap.size 9 1 v' ds.length (strs ds) ∧ Below w.heap.size w w') := by
   refine ⟨by simpa using hr1, hb.grown g1 (by simp) (fun k e => ?_)⟩
   cases e
   exact Nat.le_refl _
  have r2 : (bAppE #[.slice (some ⟨w.heap.size, 0, none⟩) 0 0, .slice (some ⟨g, 0, none⟩) ds.length cap]).run Tryz.prog (w.alloc (.cells #[] 9 (0, 0))) = .ok v' w' := r1
  clear hb hrow hr1 g1 r1 hg hs ht hm hc hls
  have hq := eqNilS_no ⟨g, 0, none⟩ ds.length cap w
  go_enter Tryz.func126, Tryz.ntmps126
  go_wp2
  go_ret
  exact ⟨_, rfl, HR.out⟩
end
def Src (w : World) (q : Option Addr) (els : List El) : Prop := 0 < els.length → ∃ g f E, q = some ⟨g, f * 6, none⟩ ∧ SRow w g E ∧ (E.drop f).take els.length = els
theorem Src.blk {w w' : World} {q : Option Addr} {els : List El} (h : Src w q els) (hb : Below w.heap.size w w') : Src w' q els := fun h0 => by
 obtain ⟨g, f, E, e, hr, hE⟩ := h h0
 exact ⟨g, f, E, e, hr.blk hb, hE⟩
end Go.Proofs.YtdlcldjlfhmlgaaGreatDoor
/- Layer 14: chosen. -/
namespace Go.Proofs.YtdlcldjlfhmlgaaGreatDoor
open Go.RowKit
open So (El elC SRow)
attribute [local go_sem ↓] app_s
theorem own_low {w : World} {N M e size k : Nat} {v : Value} {l : List Value} (hr : w.ownsRow M e size v k l) (hN : N ≤ M) : w.ownsRow N e size v k l := by
 obtain ⟨hl, h0 | ⟨g, cap, cur, hv, hg0, r⟩⟩ := hr
 ·exact ⟨hl, .inl h0⟩
 ·exact ⟨hl, .inr ⟨g, cap, cur, hv, Nat.le_trans hN hg0, r⟩⟩
theorem Src.cell {w : World} {q : Option Addr} {els : List El} (h : Src w q els) (i : Nat) (hi : i < els.length) : ∃ g o, q = some ⟨g, o, none⟩ ∧ ∀ j, j < 6 → w.cell? ⟨g, o + i * 6 + j, none⟩ = els[i].c[j]? := by
 obtain ⟨g, f, E, e, hr, hE⟩ := h (by omega)
 have hlen : f + i < E.length := by
  have := congrArg List.length hE
  rw [List.length_take, List.length_drop] at this
  omega
 refine ⟨g, f * 6, e, fun j hj => ?_⟩
 have := hr.cell (f + i) hlen j hj
 have e1 : E[f + i] = els[i] := by
  have h1 : els[i]? = E[f + i]? := by rw [← hE, List.getElem?_take, if_pos hi, List.getElem?_drop]
  rw [List.getElem?_eq_getElem hi, List.getElem?_eq_getElem hlen] at h1
  simpa using h1.symm
 rw [Nat.add_mul, e1] at this
 exact this
end Go.Proofs.YtdlcldjlfhmlgaaGreatDoor
/- Layer 14: slices.BinarySearchFunc at sets. -/
namespace Go.Proofs.YtdlcldjlfhmlgaaGreatDoor
open Go.RowKit
open So (El elC SRow)
set_option maxRecDepth 100000 in
theorem fcmp_in (x : El) (hx : OkN x.ls) (n : N3) (hn : OkN n) (W : World) : Calls Tryz.prog 125 #[.agg x.c.toArray, .string (nm n)] W fun e w' => e = .returned (.int .i64 (cmpN x.ls n)) ∧ Below W.heap.size W w' := by
 have HC := Hid.mk (compare_yes x.ls n hx hn)
 simp only [El.c]
 generalize x.dv = d1
 generalize x.sv = s1
 go_enter Tryz.func125, Tryz.ntmps125
 go_wp2_with fail
 refine (HC.out _).mono ?_
 rintro e w1 ⟨rfl, hb1⟩
 go_wp2
 go_ret
 refine ⟨rfl, Below.trans ((Below.refl _ _).alloc (Nat.le_refl _) _) (hb1.mono (by simp))⟩
def fstE (els : List El) (n : N3) : Nat := (els.filter fun e => decide (cmpN e.ls n < 0)).length
theorem fst_of {els : List El} {n : N3} (hR : So.Ris So.lt els) {i : Nat} (hi : i ≤ els.length) (h1 : i = 0 ∨ 0 < i ∧ ∃ e, els[i - 1]? = some e ∧ cmpN e.ls n < 0) (h2 : i = els.length ∨ ∃ e, els[i]? = some e ∧ 0 ≤ cmpN e.ls n) : fstE els n = i := by
 unfold fstE
 have a1 : ∀ p ∈ els.take i, cmpN p.ls n < 0 := by
  rcases h1 with rfl | ⟨h0, e, he, hc⟩
  ·simp
  ·intro p hp
   have := So.ris_before (x := ⟨n, 0, 0, 0, nilS, nilS⟩) hR he (So.lt_true.2 hc) p (by rwa [show i - 1 + 1 = i by omega])
   exact So.lt_true.1 this
 have a2 : ∀ p ∈ els.drop i, ¬ cmpN p.ls n < 0 := by
  rcases h2 with rfl | ⟨e, he, hc⟩
  ·simp
  ·intro p hp h
   have := So.ris_behind (x := ⟨n, 0, 0, 0, nilS, nilS⟩) hR he (by cases e2 : So.lt e ⟨n, 0, 0, 0, nilS, nilS⟩ with | false => rfl | true => exact absurd (So.lt_true.1 e2) (by show ¬ cmpN e.ls n < 0; omega)) p hp
   rw [So.lt_true.2 h] at this
   cases this
 conv => lhs; rw [← List.take_append_drop i els]
 rw [List.filter_append, List.filter_eq_self.2 (fun p hp => by simpa using a1 p hp), List.filter_eq_nil_iff.2 (fun p hp => by simpa using a2 p hp), List.append_nil, List.length_take]
 omega
structure Sch (W : World) (q : Option Addr) (els : List El) (n : N3) (w : World) : Prop where
 row : 0 < els.length → ∃ g, q = some ⟨g, 0, none⟩ ∧ SRow w g els
 bel : Below W.heap.size W w
theorem Sch.blk {W w w' : World} {q : Option Addr} {els : List El} {n : N3} (h : Sch W q els n w) (hb : Below w.heap.size w w') : Sch W q els n w' :=
 ⟨fun h0 => by obtain ⟨g, e, hr⟩ := h.row h0; exact ⟨g, e, hr.blk hb⟩, h.bel.trans (hb.mono h.bel.size)⟩
def BsP (F : Nat) (W : World) (e : Ending) (w' : World) : Prop := (∃ b, e = .returned (.tuple #[.int .i64 (F : Int), .bool b])) ∧ Below W.heap.size W w'
attribute [local go_sem ↓] So.loadAt_st
set_option maxRecDepth 100000 in
set_option maxHeartbeats 2000000 in
theorem bsearch_in (W : World) (q : Option Addr) (cap : Nat) (els : List El) (n : N3) (hn : OkN n) (hrow : 0 < els.length → ∃ g, q = some ⟨g, 0, none⟩ ∧ SRow W g els) (hok : ∀ e ∈ els, OkN e.ls) (hR : So.Ris So.lt els) (hl : els.length ≤ 1000) :
  Calls Tryz.prog 124 #[.slice q els.length cap, .string (nm n), .func (.func 125) #[] #[]] W fun e w' => BsP (fstE els n) W e w' := by
 have H0 : Hid (Sch W q els n W) := ⟨hrow, Below.refl _ _⟩
 have HFI := Hid.mk (fun i => @fst_of els n hR i)
 have HAt : Hid (∀ w i, i < els.length → Sch W q els n w → ∃ g, q = some ⟨g, 0, none⟩ ∧ ∃ (e : El), (So.stLoad (.pointer (some ⟨g, i * 6, none⟩))).run Tryz.prog w = .ok (.agg e.c.toArray) w ∧ Hid (els[i]? = some e ∧ ∀ w, Calls Tryz.prog 125 #[.agg e.c.toArray, .string (nm n)] w fun e' w' => e' = .returned (.int .i64 (cmpN e.ls n)) ∧ Below w.heap.size w w')) := by
  intro w i hi h
  obtain ⟨g, e, hr⟩ := h.row (by omega)
  exact ⟨g, e, els[i], hr.load i hi, List.getElem?_eq_getElem hi, fun w => fcmp_in _ (hok _ (List.getElem_mem hi)) n hn w⟩
 obtain ⟨m, hm⟩ : ∃ m, els.length = m := ⟨_, rfl⟩
 obtain ⟨F, hF⟩ : ∃ F, fstE els n = F := ⟨_, rfl⟩
 rw [hm] at HAt HFI hl ⊢
 rw [hF] at HFI ⊢
 clear hrow hok hR hm hF
 go_enter Tryz.func124, Tryz.ntmps124
 go_wp2
 go_loopw [9, 10] (fun iv jv wr => ∃ i j : Nat, iv = .int .i64 (i : Int) ∧ jv = .int .i64 (j : Int) ∧ i ≤ j ∧ j ≤ m ∧ Hid ((i = 0 ∨ 0 < i ∧ ∃ e, els[i - 1]? = some e ∧ cmpN e.ls n < 0) ∧ (j = m ∨ ∃ e, els[j]? = some e ∧ 0 ≤ cmpN e.ls n) ∧ Sch W q els n wr)) (fun iv jv _ => (intOf jv).toNat - (intOf iv).toNat)
 case atStart => exact ⟨0, m, rfl, rfl, Nat.zero_le _, Nat.le_refl _, .inl rfl, .inl rfl, H0.out⟩
 case round =>
  obtain ⟨i, j, rfl, rfl, hij, hjb, HD⟩ := hrel
  by_cases hlt : i < j
  ·have hlz : (i : Int) < (j : Int) := by omega
   obtain ⟨hh, hhe⟩ : ∃ hh, (i + j) / 2 = hh := ⟨_, rfl⟩
   obtain ⟨s, hs⟩ : ∃ s, i + j = s := ⟨_, rfl⟩
   have hv := So.halves i j hh hhe (by omega)
   rw [hs] at hv
   obtain ⟨v1, v2, v3, v4, v5⟩ := hv
   have hhb : i ≤ hh ∧ hh < j := by omega
   obtain ⟨g, rfl, x, ld, HX⟩ := HAt.out wr hh (by omega) HD.out.2.2
   obtain ⟨c, hc⟩ : ∃ c, cmpN x.ls n = c := ⟨_, rfl⟩
   rw [hc] at HX
   have HCe := Hid.mk hc
   have hz : (hh : Int) < (m : Int) := by omega
   obtain ⟨xc, hxc⟩ : ∃ xc, x.c.toArray = xc := ⟨_, rfl⟩
   rw [hxc] at HX ld
   have wh : IntKind.i64.wrap ((hh : Int) + 1) = ((hh + 1 : Nat) : Int) := by rw [IntKind.wrap_i64]; omega
   clear hc hs hhe hxc
   by_cases hcz : c < 0
   ·go_wp2_with fail
    refine (HX.out.2 _).mono ?_
    rintro e w2 ⟨rfl, hb2⟩
    have HG : Hid ((hh + 1 = 0 ∨ 0 < hh + 1 ∧ ∃ e, els[hh + 1 - 1]? = some e ∧ cmpN e.ls n < 0) ∧ (j = m ∨ ∃ e, els[j]? = some e ∧ 0 ≤ cmpN e.ls n) ∧ Sch W (some ⟨g, 0, none⟩) els n w2) :=
     ⟨.inr ⟨by omega, x, HX.out.1, by rw [HCe.out]; exact hcz⟩, HD.out.2.1, HD.out.2.2.blk hb2⟩
    clear hb2
    go_wp2
    go_roundw
    case rel => exact ⟨hh + 1, j, by first | rfl | go_num, rfl, by omega, by omega, HG⟩
    case measure => simp [intOf]; omega
   ·go_wp2_with fail
    refine (HX.out.2 _).mono ?_
    rintro e w2 ⟨rfl, hb2⟩
    have HG : Hid ((i = 0 ∨ 0 < i ∧ ∃ e, els[i - 1]? = some e ∧ cmpN e.ls n < 0) ∧ (hh = m ∨ ∃ e, els[hh]? = some e ∧ 0 ≤ cmpN e.ls n) ∧ Sch W (some ⟨g, 0, none⟩) els n w2) :=
     ⟨HD.out.1, .inr ⟨x, HX.out.1, by rw [HCe.out]; omega⟩, HD.out.2.2.blk hb2⟩
    clear hb2
    go_wp2
    go_roundw
    case rel => exact ⟨i, hh, rfl, rfl, by omega, by omega, HG⟩
    case measure => simp [intOf]; omega
  ·obtain rfl : i = j := by omega
   obtain rfl : F = i := HFI.out i hjb HD.out.1 HD.out.2.1
   by_cases hlm : F < m
   ·have hlz : (F : Int) < (m : Int) := by omega
    obtain ⟨g, rfl, x, ld, HX⟩ := HAt.out wr F hlm HD.out.2.2
    obtain ⟨c, hc⟩ : ∃ c, cmpN x.ls n = c := ⟨_, rfl⟩
    rw [hc] at HX
    obtain ⟨xc, hxc⟩ : ∃ xc, x.c.toArray = xc := ⟨_, rfl⟩
    rw [hxc] at HX ld
    clear hc hxc
    go_wp2_with fail
    refine (HX.out.2 _).mono ?_
    rintro e w2 ⟨rfl, hb2⟩
    have HG := Hid.mk (HD.out.2.2.blk hb2).bel
    clear hb2
    go_wp2
    go_ret2
    exact ⟨⟨_, rfl⟩, HG.out⟩
   ·have hlz : ¬ (F : Int) < (m : Int) := by omega
    have HG := Hid.mk HD.out.2.2.bel
    go_wp2
    go_ret2
    exact ⟨⟨_, rfl⟩, HG.out⟩
end Go.Proofs.YtdlcldjlfhmlgaaGreatDoor
