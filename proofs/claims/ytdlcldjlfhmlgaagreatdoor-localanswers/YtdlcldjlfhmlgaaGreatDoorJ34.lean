/- Texts of this proof, joined: LeL. -/
import Derived.Deep.RegionHeld3
import Derived.Test.YtdlcldjlfhmlgaaGreatDoorJ32
import Derived.Test.YtdlcldjlfhmlgaaGreatDoorJ33
set_option linter.unusedVariables false
set_option linter.unusedSimpArgs false
/- The document's lost (guidepostref14): is a record of none of the sets? -/
namespace Go.Proofs.YtdlcldjlfhmlgaaGreatDoor
open Go.RowKit
open So (El elC SRow)
structure AloneAt (x : Rc) (g b' c' : Nat) (qs : Option Addr) (es : Nat) (w : World) : Prop where
 lg : g < w.heap.size
 lbb : b' < w.heap.size
 c1 : 1 ≤ c'
 cm : c' ≤ maxLen
 x0 : w.cell? ⟨g, 0, none⟩ = some (.string (nm (lb x.nm)))
 x1 : w.cell? ⟨g, 1, none⟩ = some (.int .i64 x.ty)
 x2 : w.cell? ⟨g, 2, none⟩ = some (.int .i64 x.cl)
 x3 : w.cell? ⟨g, 3, none⟩ = some (.int .i64 (ttl x))
 x4 : w.cell? ⟨g, 4, none⟩ = some (.slice (some ⟨b', 0, none⟩) 1 c')
 x5 : w.cell? ⟨g, 5, none⟩ = some (.slice qs 0 es)
 xd : w.cell? ⟨b', 0, none⟩ = some (.string x.dat)
theorem AloneAt.kept {x : Rc} {g b' c' : Nat} {qs : Option Addr} {es : Nat} {w w' : World} {D : Nat} (h : AloneAt x g b' c' qs es w) (k : Kept D w w') (hg : g ≠ D) (hb : b' ≠ D) : AloneAt x g b' c' qs es w' := by
 have cg : ∀ i v, w.cell? ⟨g, i, none⟩ = some v → w'.cell? ⟨g, i, none⟩ = some v := fun i v e => by
  unfold World.cell? at e ⊢
  simp only at e ⊢
  rw [k.same g h.lg hg]; exact e
 have cb : ∀ i v, w.cell? ⟨b', i, none⟩ = some v → w'.cell? ⟨b', i, none⟩ = some v := fun i v e => by
  unfold World.cell? at e ⊢
  simp only at e ⊢
  rw [k.same b' h.lbb hb]; exact e
 exact ⟨Nat.lt_of_lt_of_le h.lg k.size, Nat.lt_of_lt_of_le h.lbb k.size, h.c1, h.cm, cg _ _ h.x0, cg _ _ h.x1, cg _ _ h.x2, cg _ _ h.x3, cg _ _ h.x4, cg _ _ h.x5, cb _ _ h.xd⟩
theorem alone_in (x : Rc) (hx1 : x.nm.size ≤ maxLen) (hx2 : x.dat.size ≤ maxLen) (V : World) :
  Calls Tryz.prog 30 #[.slice (some ⟨V.heap.size, 0, none⟩) 1 1] (V.alloc (.cells #[.string x.nm, .int .i64 x.ty, .int .i64 x.cl, .int .i64 x.tl, .string x.dat] 33)) fun e w' =>
   (((mks x.ty && rOk x) = false ∧ ∃ q c, e = .returned (.slice q 0 c)) ∨ ((mks x.ty && rOk x) = true ∧ ∃ g c b' c' qs es, e = .returned (.slice (some ⟨g, 0, none⟩) 1 c) ∧ AloneAt x g b' c' qs es w')) ∧ Below V.heap.size V w' := by
 have hat := one_at V x
 have h := rsets_in (V.alloc (.cells (rcL x).toArray 33)) (some ⟨V.heap.size, 0, none⟩) 1 [x] hat (fun r hr => by obtain rfl := List.mem_singleton.1 hr; exact ⟨hx1, hx2⟩) (by simp)
 have hbV : Below V.heap.size V (V.alloc (.cells (rcL x).toArray 33)) := (Below.refl _ _).alloc (Nat.le_refl _) _
 refine h.mono ?_
 rintro e w' ⟨v, ps, rfl, hd, hp⟩
 refine ⟨?_, hbV.trans (hd.bel.mono hbV.size)⟩
 obtain ⟨els, h1⟩ := hd.rs
 have hf := hp.fst
 rw [sets_one] at hf
 cases hc : (mks x.ty && rOk x) with
 | false =>
  left
  rw [hc, if_neg (by simp)] at hf
  have : ps = [] := List.map_eq_nil_iff.1 hf
  subst this
  obtain ⟨q, c, rfl⟩ := h1.form
  exact ⟨rfl, q, c, rfl⟩
 | true =>
  right
  rw [hc, if_pos rfl] at hf
  refine ⟨rfl, ?_⟩
  obtain ⟨p, rfl⟩ : ∃ p, ps = [p] := List.length_eq_one_iff.1 (by have := congrArg List.length hf; simpa using this)
  obtain ⟨e, rfl⟩ : ∃ e, els = [e] := List.length_eq_one_iff.1 h1.len
  obtain ⟨s0, sg⟩ := p
  have hp1 : s0 = newS x := by simpa using hf
  have hne : x.ty ≠ 46 := by
   rw [Bool.and_eq_true] at hc
   exact (mks_ne hc.1).1
  have hp2 : sg = [] := hp.no (fun r hr => by obtain rfl := List.mem_singleton.1 hr; exact hne) (s0, sg) (by simp)
  subst hp2
  rw [hp1, newS_eq x] at h1
  obtain ⟨g, cap, hv, _, hr⟩ := srow_form h1.row (by simp)
  have hs := h1.rel.at 0 (by simp) (by simp)
  simp only [List.getElem_cons_zero] at hs
  obtain ⟨qd, cd, hdv, htx, hdm⟩ := TxAt.of_own (hs.tx false)
  obtain ⟨qs, es, hsv⟩ := row_form' (hs.tx true)
  obtain ⟨bd, od, hq, hlt, hcd⟩ := htx 0 (by show 0 < [x.dat].length; simp)
  have hd2 := hs.tx false
  obtain ⟨_, ⟨h0, h00⟩ | ⟨g2, cap2, cur2, hv2, _, hg2, hn2, hm2, _, _⟩⟩ := hd2
  ·exact absurd h00 (by show ¬ [x.dat].length = 0; simp)
  ·have hv3 : fld e false = .slice (some ⟨g2, 0, none⟩) 1 cap2 := hv2
   have hq2 : qd = some ⟨g2, 0, none⟩ := by
    rw [hv3] at hdv
    simp only [Value.slice.injEq] at hdv
    exact hdv.1.symm
   rw [hq2] at hq
   simp only [Option.some.injEq, Addr.mk.injEq] at hq
   obtain ⟨rfl, rfl, _⟩ := hq
   have hcells := fun j (hj : j < 6) => hr.cell 0 (by simp) j hj
   refine ⟨g, cap, g2, cap2, qs, es, by rw [hv]; rfl, hr.lt, hlt, hn2, hm2, ?_, ?_, ?_, ?_, ?_, ?_, ?_⟩
   ·have := hcells 0 (by decide)
    rw [show (0 : Nat) * 6 + 0 = 0 from rfl] at this
    rw [this]
    show some (Value.string (nm e.ls)) = _
    rw [hs.ls]
   ·have := hcells 1 (by decide)
    rw [show (0 : Nat) * 6 + 1 = 1 from rfl] at this
    rw [this]
    show some (Value.int .i64 e.ty) = _
    rw [hs.ty]
   ·have := hcells 2 (by decide)
    rw [show (0 : Nat) * 6 + 2 = 2 from rfl] at this
    rw [this]
    show some (Value.int .i64 e.cl) = _
    rw [hs.cl]
   ·have := hcells 3 (by decide)
    rw [show (0 : Nat) * 6 + 3 = 3 from rfl] at this
    rw [this]
    show some (Value.int .i64 e.tl) = _
    rw [hs.tl]
   ·have := hcells 4 (by decide)
    rw [show (0 : Nat) * 6 + 4 = 4 from rfl] at this
    rw [this]
    exact congrArg some hv3
   ·have := hcells 5 (by decide)
    rw [show (0 : Nat) * 6 + 5 = 5 from rfl] at this
    rw [this]
    have e5 : e.sv = .slice qs 0 es := by
     exact hsv
    exact congrArg some e5
   ·exact hcd
set_option maxRecDepth 100000 in
set_option maxHeartbeats 8000000 in
theorem rlost_in {N : Nat} {W : World} {v : Value} {els : List El} {ps : List Sg} (h : RS N W v els ps) (hg : ∀ p ∈ ps, SG p.1 ∧ p.1.ds.length ≤ 1000) (x : Rc) (hx1 : x.nm.size ≤ maxLen) (hx2 : x.dat.size ≤ maxLen) :
  Calls Tryz.prog 32 #[v, .agg #[.string x.nm, .int .i64 x.ty, .int .i64 x.cl, .int .i64 x.tl, .string x.dat]] W fun e w' => e = .returned (.bool (lostD (ps.map Prod.fst) x)) ∧ Below W.heap.size W w' := by
 classical
 obtain ⟨q, cap, rfl⟩ := h.form
 obtain ⟨n, hn⟩ : ∃ n, ps.length = n := ⟨_, rfl⟩
 have hnm : n ≤ maxLen := by
  obtain ⟨_, h0 | ⟨g, c, cur, e, _, _, h1, h2, _⟩⟩ := h.row
  ·have h3 := h0.2; have := h.len; unfold maxLen; omega
  ·have := h.len; omega
 have HC : Hid (∀ i, i < n → ∃ g, q = some ⟨g, 0, none⟩ ∧ ∃ (s : St) (qd : Option Addr) (cd : Nat) (qg : Option Addr) (lg cg : Nat), Hid (∃ hi : i < (ps.map Prod.fst).length, (ps.map Prod.fst)[i] = s) ∧ Hid (SG s ∧ s.ds.length ≤ 1000) ∧ Hid (∀ w, Below W.heap.size W w → w.cell? ⟨g, i * 6, none⟩ = some (.string (nm s.ls)) ∧ w.cell? ⟨g, i * 6 + 1, none⟩ = some (.int .i64 s.ty) ∧ w.cell? ⟨g, i * 6 + 2, none⟩ = some (.int .i64 s.cl) ∧ w.cell? ⟨g, i * 6 + 3, none⟩ = some (.int .i64 s.tl) ∧ w.cell? ⟨g, i * 6 + 4, none⟩ = some (.slice qd s.ds.length cd) ∧ w.cell? ⟨g, i * 6 + 5, none⟩ = some (.slice qg lg cg)) ∧ Hid (∀ k (hk : k < s.ds.length), ∃ bd od, qd = some ⟨bd, od, none⟩ ∧ bd < W.heap.size ∧ W.cell? ⟨bd, od + k, none⟩ = some (.string s.ds[k]))) := by
  intro i hi
  replace hi : i < ps.length := by omega
  have hi' : i < els.length := by rw [h.len]; exact hi
  obtain ⟨g, cap', e, _, hr⟩ := srow_form h.row (by omega)
  simp only [Value.slice.injEq] at e
  obtain ⟨rfl, _, rfl⟩ := e
  have hs := h.rel.at i hi' hi
  obtain ⟨qd, cd, hdv, htx, hdm⟩ := TxAt.of_own (hs.tx false)
  obtain ⟨qg, cg, hsv⟩ := row_form' (hs.tx true)
  refine ⟨g, rfl, ps[i].1, qd, cd, qg, (ps[i].tx true).length, cg, ⟨by simpa using hi, by simp⟩, hg _ (List.getElem_mem hi), fun w hb => ?_, htx⟩
  have hr2 := hr.same (hb.block g hr.lt)
  refine ⟨?_, ?_, ?_, ?_, ?_, ?_⟩
  ·have := hr2.cell i hi' 0 (by decide)
   rw [Nat.add_zero] at this
   rw [this, ← hs.ls]; rfl
  ·rw [hr2.cell i hi' 1 (by decide), ← hs.ty]; rfl
  ·rw [hr2.cell i hi' 2 (by decide), ← hs.cl]; rfl
  ·rw [hr2.cell i hi' 3 (by decide), ← hs.tl]; rfl
  ·rw [hr2.cell i hi' 4 (by decide)]; exact congrArg some hdv
  ·rw [hr2.cell i hi' 5 (by decide)]; exact congrArg some hsv
 obtain ⟨ss, hss⟩ : ∃ ss, ps.map Prod.fst = ss := ⟨_, rfl⟩
 have hsl : ss.length = n := by rw [← hss, List.length_map]; exact hn
 rw [hss] at HC ⊢
 rw [hn]
 obtain ⟨R, hR⟩ : ∃ R, lostD ss x = R := ⟨_, rfl⟩
 have HR : Hid (R = !((mks x.ty && rOk x) && decide (∃ s ∈ ss, InS s x))) := by rw [← hR]; rfl
 rw [hR]
 obtain ⟨V, hV⟩ : ∃ V, W.alloc (.cells #[.string x.nm, .int .i64 x.ty, .int .i64 x.cl, .int .i64 x.tl, .string x.dat] 33) = V := ⟨_, rfl⟩
 have X0 : Bx W W.heap.size (rcL x) 33 V := hV ▸ Bx.new W _ _
 have HV := Hid.mk hV
 obtain ⟨B, hB⟩ : ∃ B, W.heap.size = B := ⟨_, rfl⟩
 have HB := Hid.mk hB
 rw [hB] at X0
 have hBV : B < V.heap.size := X0.lt
 have HX : Hid (∀ w, Below V.heap.size V w → w.cell? ⟨B, 0, none⟩ = some (.string x.nm) ∧ w.cell? ⟨B, 1, none⟩ = some (.int .i64 x.ty) ∧ w.cell? ⟨B, 2, none⟩ = some (.int .i64 x.cl) ∧ w.cell? ⟨B, 3, none⟩ = some (.int .i64 x.tl) ∧ w.cell? ⟨B, 4, none⟩ = some (.string x.dat)) := fun w hb => (X0.blk hb).cells5
 have HWV : Hid (Below B W V) := X0.bel.mono (by rw [hB]; exact Nat.le_refl _)
 have HA := Hid.mk (alone_in x hx1 hx2 V)
 have x0 := HX.out _ (Below.refl _ _)
 have HEQ : Hid (∀ (a : N3), OkN a → ∀ w, Calls Tryz.prog 29 #[.string (nm a), .string x.nm] w fun e w' => e = .returned (.bool (eqF (nm a) x.nm)) ∧ Below w.heap.size w w') := fun a ha w => requal_in _ _ (by have := name_size ⟨a, ha, rfl⟩; unfold maxLen; omega) hx1 w
 have HIN : Hid (∀ w, Below B W w → Below W.heap.size W w) := fun w hb => by rw [hB]; exact hb
 clear hV hB X0 h hg hn hss hR
 go_enter Tryz.func32, Tryz.ntmps32
 go_upto_region 1 with fail
 rw [HV.out, HB.out]
 go_wp2_with fail
 refine HA.out.mono ?_
 rintro e w1 ⟨hE, hb1⟩
 have HB1 := Hid.mk hb1
 have HW1 : Hid (Below B W w1) := HWV.out.trans (hb1.mono (Nat.le_of_lt hBV))
 have HBs : Hid (B ≤ w1.heap.size) := Nat.le_trans (Nat.le_of_lt hBV) HB1.out.size
 clear x0 hb1 HA
 rcases hE with ⟨hok, q1, c1, rfl⟩ | ⟨hok, g1, c1, b', c', qs, es, rfl, hal⟩
 ·obtain rfl : R = true := by rw [HR.out, hok]; rfl
  clear hok HR
  go_wp2
  go_ret
  exact ⟨rfl, HIN.out _ HW1.out⟩
 ·have hok' := hok
  rw [Bool.and_eq_true] at hok'
  obtain ⟨p1, p2, p3, p4⟩ := rOk_parts hok'.2
  have ht46 := mks_ne hok'.1
  have htt := @ttl_range x
  obtain ⟨l1, l2⟩ := lb_ok p1
  have HONE : Hid (OneS (lb x.nm) x.ty x.cl (ttl x) x.dat) := ⟨l1, dRt_ty p4, ht46.1, ht46.2, by omega, htt, p4⟩
  have HEB : Hid (∀ a : N3, OkN a → eqF (nm a) x.nm = eqB a (lb x.nm)) := fun a ha => by
   conv => lhs; rw [l2]
   exact eqF_nm ha l1
  have HAL := Hid.mk hal
  have HNO : Hid ((∀ j (hj : j < ss.length), ¬ InS ss[j] x) → R = true) := fun hh => by
   rw [HR.out, decide_eq_false]
   ·simp
   ·rintro ⟨s, hs, hi⟩
    obtain ⟨j, hj, rfl⟩ := List.getElem_of_mem hs
    exact hh j hj hi
  have HYES : Hid (∀ j (hj : j < ss.length), InS ss[j] x → R = false) := fun j hj hi => by
   rw [HR.out, decide_eq_true ⟨ss[j], List.getElem_mem hj, hi⟩, hok]; rfl
  have HW1V : Hid (V.heap.size ≤ w1.heap.size) := HB1.out.size
  clear hok hok' p1 p2 p3 p4 ht46 htt l1 l2 hal HR
  go_wp2
  go_loopw [6] (fun iv wr => ∃ (i : Nat) (u : World), u = wr ∧ i ≤ n ∧ iv = .int .i64 (i : Int) ∧ Hid (∀ j (hj : j < ss.length), j < i → ¬ InS ss[j] x) ∧ Hid (Below w1.heap.size w1 u)) (fun iv _ => n - (intOf iv).toNat)
  case atStart => exact ⟨0, _, rfl, Nat.zero_le _, rfl, fun j _ hj => absurd hj (Nat.not_lt_zero _), Below.refl _ _⟩
  case round =>
   obtain ⟨i, u, rfl, hi, rfl, HI, HU⟩ := hrel
   by_cases hlt : i < n
   ·have hlz : (i : Int) < (n : Int) := by omega
    have wi : IntKind.i64.wrap ((i : Int) + 1) = ((i + 1 : Nat) : Int) := by rw [IntKind.wrap_i64]; unfold maxLen at hnm; omega
    obtain ⟨g, rfl, s, qd, cd, qg, lg, cg, HSi, HSG, HCE, HTX⟩ := HC.out i hlt
    obtain ⟨sls, sty, scl, stl, sds⟩ := s
    obtain ⟨dl, hdl⟩ : ∃ dl, sds.length = dl := ⟨_, rfl⟩
    have HDL := Hid.mk hdl
    have HCE2 : Hid (∀ w, Below B W w → w.cell? ⟨g, i * 6, none⟩ = some (.string (nm sls)) ∧ w.cell? ⟨g, i * 6 + 1, none⟩ = some (.int .i64 sty) ∧ w.cell? ⟨g, i * 6 + 2, none⟩ = some (.int .i64 scl) ∧ w.cell? ⟨g, i * 6 + 3, none⟩ = some (.int .i64 stl) ∧ w.cell? ⟨g, i * 6 + 4, none⟩ = some (.slice qd dl cd) ∧ w.cell? ⟨g, i * 6 + 5, none⟩ = some (.slice qg lg cg)) := fun w hb => by
     have := HCE.out w (HIN.out _ hb)
     rw [← hdl]; exact this
    have HUW : Hid (Below B W u) := HW1.out.trans (HU.out.mono HBs.out)
    obtain ⟨c0, c1, c2, c3, c4, c5⟩ := HCE2.out u HUW.out
    obtain ⟨U1, hU1⟩ : ∃ U1, u.alloc (.cells #[.string (nm sls), .int .i64 sty, .int .i64 scl, .int .i64 stl, .slice qd dl cd, .slice qg lg cg] 44) = U1 := ⟨_, rfl⟩
    obtain ⟨D1, hD1⟩ : ∃ D1, u.heap.size = D1 := ⟨_, rfl⟩
    have hU1b : Below u.heap.size u U1 := hU1 ▸ (Below.refl _ _).alloc (Nat.le_refl _) _
    have hD1h : U1.heap[D1]? = some (.cells #[.string (nm sls), .int .i64 sty, .int .i64 scl, .int .i64 stl, .slice qd dl cd, .slice qg lg cg] 44 (0, 0)) := by rw [← hU1, ← hD1]; exact heap_new _ _
    have HUB : Hid (Below w1.heap.size w1 U1) := HU.out.trans (hU1b.mono HU.out.size)
    have HD1 : Hid (∀ w, Below U1.heap.size U1 w → w.cell? ⟨D1, 0, none⟩ = some (.string (nm sls)) ∧ w.cell? ⟨D1, 1, none⟩ = some (.int .i64 sty) ∧ w.cell? ⟨D1, 2, none⟩ = some (.int .i64 scl) ∧ w.cell? ⟨D1, 3, none⟩ = some (.int .i64 stl) ∧ w.cell? ⟨D1, 4, none⟩ = some (.slice qd dl cd) ∧ w.cell? ⟨D1, 5, none⟩ = some (.slice qg lg cg)) := fun w hb => by
     have h2 := (hb.block _ (box_lt hD1h)).trans hD1h
     exact ⟨(cells_at h2 rfl).1, (cells_at h2 rfl).1, (cells_at h2 rfl).1, (cells_at h2 rfl).1, (cells_at h2 rfl).1, (cells_at h2 rfl).1⟩
    have HXU : Hid (∀ w, Below w1.heap.size w1 w → w.cell? ⟨B, 0, none⟩ = some (.string x.nm) ∧ w.cell? ⟨B, 1, none⟩ = some (.int .i64 x.ty) ∧ w.cell? ⟨B, 2, none⟩ = some (.int .i64 x.cl) ∧ w.cell? ⟨B, 3, none⟩ = some (.int .i64 x.tl) ∧ w.cell? ⟨B, 4, none⟩ = some (.string x.dat)) := fun w hb => HX.out w (HB1.out.trans (hb.mono HW1V.out))
    have HEQs := Hid.mk (HEQ.out sls HSG.out.1.nm)
    have HEBs := Hid.mk (HEB.out sls HSG.out.1.nm)
    have HU1 := Hid.mk hU1
    have HD1e := Hid.mk hD1
    have d1 := HD1.out _ (Below.refl _ _)
    have xU := HXU.out _ HUB.out
    have HNx : Hid (¬ InS ⟨sls, sty, scl, stl, sds⟩ x → ∀ j (hj : j < ss.length), j < i + 1 → ¬ InS ss[j] x) := fun hno j hj hji => by
     rcases Nat.lt_succ_iff_lt_or_eq.1 hji with h1 | rfl
     ·exact HI.out j hj h1
     ·obtain ⟨h2, e⟩ := HSi.out
      rw [e]; exact hno
    have HRt : Hid (InS ⟨sls, sty, scl, stl, sds⟩ x → R = false) := fun hin => by
     obtain ⟨h2, e⟩ := HSi.out
     exact HYES.out i h2 (by rw [e]; exact hin)
    clear hU1 hD1 hU1b hD1h HCE hdl
    go_upto_region 8 with fail
    rw [HU1.out, HD1e.out]
    clear c0 c1 c2 c3 c4 c5
    go_wp2_with fail
    refine (HEQs.out _).mono ?_
    rintro e w2 ⟨rfl, hb2⟩
    have HB2 := Hid.mk hb2
    have HW2 : Hid (Below w1.heap.size w1 w2) := HUB.out.trans (hb2.mono HUB.out.size)
    have d2 := HD1.out _ hb2
    have xW := HXU.out _ HW2.out
    clear hb2 d1 xU
    rw [HEBs.out]
    cases hq : eqB sls (lb x.nm) with
    | false =>
     have HNxt := Hid.mk (HNx.out (fun hin => by
      have := (keyS_iff.1 hin.1).1
      unfold eqB at hq
      exact absurd this (of_decide_eq_false hq)))
     clear hq
     go_wp2
     go_roundw
     case rel => exact ⟨i + 1, _, rfl, by omega, by first | rfl | go_num, HNxt, HW2⟩
     case measure => simp [intOf]; omega
    | true =>
     by_cases hty : sty = x.ty
     ·by_cases hcl : scl = x.cl
      ·subst hty hcl
       have b1 : (x.ty != x.ty) = false := by simp
       have b2 : (x.cl != x.cl) = false := by simp
       have hlow : lowN sls = lowN (lb x.nm) := by unfold eqB at hq; exact of_decide_eq_true hq
       obtain ⟨U2, hU2⟩ : ∃ U2, w2.alloc (.cells #[.string (nm sls), .int .i64 x.ty, .int .i64 x.cl, .int .i64 stl, .slice qd dl cd, .slice qg lg cg] 44) = U2 := ⟨_, rfl⟩
       obtain ⟨D2, hD2⟩ : ∃ D2, w2.heap.size = D2 := ⟨_, rfl⟩
       have hU2b : Below w2.heap.size w2 U2 := hU2 ▸ (Below.refl _ _).alloc (Nat.le_refl _) _
       have hD2h : U2.heap[D2]? = some (.cells #[.string (nm sls), .int .i64 x.ty, .int .i64 x.cl, .int .i64 stl, .slice qd dl cd, .slice qg lg cg] 44 (0, 0)) := by rw [← hU2, ← hD2]; exact heap_new _ _
       obtain ⟨y5, z5⟩ := cells_at (j := 5) hD2h rfl
       have h3 := Hid.mk (cells_put (j := 5) hD2h (.slice none 0 0))
       have hz12 : w1.heap.size ≤ w2.heap.size := HW2.out.size
       have hzu : u.heap.size < w2.heap.size := by
        have h1 := HB2.out.size
        have h2 : u.heap.size < U1.heap.size := by rw [← HU1.out]; simp
        omega
       have HW2U : Hid (Below w1.heap.size w1 U2) := HW2.out.trans (hU2b.mono hz12)
       have HDD : Hid (D1 ≠ D2 ∧ w1.heap.size ≤ D2 ∧ B ≤ D2) := by
        have h1 := HD1e.out
        have h2 := HBs.out
        refine ⟨by omega, by omega, by omega⟩
       have HD1k : Hid (∀ w, Kept D2 U2 w → w.cell? ⟨D1, 4, none⟩ = some (.slice qd dl cd)) := fun w k => by
        have h1 := (HD1.out _ (HB2.out.trans (hU2b.mono HB2.out.size))).2.2.2.2.1
        have hlt1 : D1 < U2.heap.size := by have := HD1e.out; have := hU2b.size; omega
        unfold World.cell? at h1 ⊢
        simp only at h1 ⊢
        rw [k.same D1 hlt1 HDD.out.1]; exact h1
       have HALk : Hid (∀ w, Kept D2 U2 w → AloneAt x g1 b' c' qs es w) := fun w k => by
        have hg1 := HAL.out.lg
        have hb1 := HAL.out.lbb
        have hd := HDD.out.2.1
        have h1 := HAL.out.kept (D := D2) (Kept.of_below HW2U.out) (by omega) (by omega)
        exact h1.kept k (by omega) (by omega)
       have HTXk : Hid (∀ k, k < dl → ∃ bd od, qd = some ⟨bd, od, none⟩ ∧ ∃ d : ByteArray, Hid (∃ hk : k < sds.length, sds[k] = d) ∧ Hid (OneS sls x.ty x.cl stl d) ∧ Hid (∀ w, Kept D2 U2 w → w.cell? ⟨bd, od + k, none⟩ = some (.string d))) := fun k hk => by
        have hk' : k < sds.length := by rw [HDL.out]; exact hk
        obtain ⟨bd, od, e, hlt3, hc⟩ := HTX.out k hk'
        have sg := HSG.out.1
        refine ⟨bd, od, e, sds[k], ⟨hk', rfl⟩, ⟨sg.nm, sg.ty, sg.t46.1, sg.t46.2, sg.cl, sg.tl, sg.dat _ (List.getElem_mem hk')⟩, fun w k2 => ?_⟩
        have hbW : Below B W U2 := HW1.out.trans (HW2U.out.mono HBs.out)
        have hWB := HB.out
        have h4 : U2.cell? ⟨bd, od + k, none⟩ = some (.string sds[k]) := ((HIN.out _ hbW).cell (p := ⟨bd, od + k, none⟩) hlt3).trans hc
        have hz := (HIN.out _ hbW).size
        have hB2 := HDD.out.2.2
        unfold World.cell? at h4 ⊢
        simp only at h4 ⊢
        rw [k2.same bd (by omega) (by omega)]; exact h4
       have HU2 := Hid.mk hU2
       have HD2 := Hid.mk hD2
       have hdm : dl ≤ 1000 := by rw [← HDL.out]; exact HSG.out.2
       have k0 : Kept D2 U2 (U2.setCell ⟨D2, 5, none⟩ (.slice none 0 0)) := Kept.set _ _ _ _
       clear hU2 hD2 hU2b hD2h hq hz12 hzu
       go_upto_region 11 with fail
       rw [HU2.out, HD2.out]
       clear d2 xW
       go_wp2
       clear y5 z5
       go_loopw [10] (fun kv wr2 => ∃ (k : Nat) (u2 : World) (dv : Value), u2 = wr2 ∧ k ≤ dl ∧ kv = .int .i64 (k : Int) ∧ Hid (∀ j (hj : j < sds.length), j < k → lowR x.ty sds[j] ≠ lowR x.ty x.dat) ∧ Hid (Kept D2 U2 u2 ∧ u2.heap[D2]? = some (.cells #[.string (nm sls), .int .i64 x.ty, .int .i64 x.cl, .int .i64 stl, dv, .slice none 0 0] 44 (0, 0)))) (fun kv _ => dl - (intOf kv).toNat)
       case atStart => exact ⟨0, _, _, rfl, Nat.zero_le _, rfl, fun j _ hj => absurd hj (Nat.not_lt_zero _), k0, h3.out⟩
       case round =>
        obtain ⟨k, u2, dv, rfl, hk, rfl, HJ, HK2⟩ := hrel
        have e4 := HD1k.out _ HK2.out.1
        clear k0 h3
        by_cases hkl : k < dl
        ·have hkz : (k : Int) < (dl : Int) := by omega
         have hkz0 : (0 : Int) ≤ (k : Int) := by omega
         have wk : IntKind.i64.wrap ((k : Int) + 1) = ((k + 1 : Nat) : Int) := by rw [IntKind.wrap_i64]; omega
         obtain ⟨bd, od, rfl, d, HDk, HOd, HTd⟩ := HTXk.out k hkl
         have e5 := HTd.out _ HK2.out.1
         obtain ⟨E, hE⟩ : ∃ E, u2.heap.size = E := ⟨_, rfl⟩
         obtain ⟨U4, hU4⟩ : ∃ U4, u2.alloc (.cells #[.string d] 9) = U4 := ⟨_, rfl⟩
         have hU4b : Below u2.heap.size u2 U4 := hU4 ▸ (Below.refl _ _).alloc (Nat.le_refl _) _
         have hE4 : U4.heap[E]? = some (.cells #[.string d] 9 (0, 0)) := by rw [← hU4, ← hE]; exact heap_new _ _
         have h24 : U4.heap[D2]? = some (.cells #[.string (nm sls), .int .i64 x.ty, .int .i64 x.cl, .int .i64 stl, dv, .slice none 0 0] 44 (0, 0)) := (hU4b.block _ (box_lt HK2.out.2)).trans HK2.out.2
         have hED : E ≠ D2 := by have := box_lt HK2.out.2; omega
         obtain ⟨y4, z4⟩ := cells_at (j := 4) h24 rfl
         rw [← hU4] at y4 z4
         obtain ⟨U5, hU5⟩ : ∃ U5, U4.setCell ⟨D2, 4, none⟩ (.slice (some ⟨E, 0, none⟩) 1 1) = U5 := ⟨_, rfl⟩
         have h25 : U5.heap[D2]? = some (.cells #[.string (nm sls), .int .i64 x.ty, .int .i64 x.cl, .int .i64 stl, .slice (some ⟨E, 0, none⟩) 1 1, .slice none 0 0] 44 (0, 0)) := hU5 ▸ cells_put (j := 4) h24 _
         have hE5 : U5.heap[E]? = some (.cells #[.string d] 9 (0, 0)) := by rw [← hU5, Below.heap_setCell _ _ _ _ hED]; exact hE4
         have K5 : Kept D2 U2 U5 := (HK2.out.1.trans (Kept.of_below hU4b)).trans (hU5 ▸ Kept.set _ _ _ _)
         have HXS : Hid (∀ w', Below U5.heap.size U5 w' → (fun w' : World => (w'.cell? ⟨D2, 0, none⟩ = some (.string (nm sls)) ∧ w'.cell? ⟨D2, 1, none⟩ = some (.int .i64 x.ty) ∧ w'.cell? ⟨D2, 2, none⟩ = some (.int .i64 x.cl) ∧ w'.cell? ⟨D2, 3, none⟩ = some (.int .i64 stl) ∧ w'.cell? ⟨D2, 4, none⟩ = some (.slice (some ⟨E, 0, none⟩) 1 1) ∧ w'.cell? ⟨D2, 5, none⟩ = some (.slice none 0 0)) ∧ (w'.cell? ⟨g1, 0, none⟩ = some (.string (nm (lb x.nm))) ∧ w'.cell? ⟨g1, 1, none⟩ = some (.int .i64 x.ty) ∧ w'.cell? ⟨g1, 2, none⟩ = some (.int .i64 x.cl) ∧ w'.cell? ⟨g1, 3, none⟩ = some (.int .i64 (ttl x)) ∧ w'.cell? ⟨g1, 4, none⟩ = some (.slice (some ⟨b', 0, none⟩) 1 c') ∧ w'.cell? ⟨g1, 5, none⟩ = some (.slice qs 0 es))) w') := fun w' hb => by
          have h6 := (hb.block _ (box_lt h25)).trans h25
          have a := HALk.out _ (K5.trans (Kept.of_below hb))
          exact ⟨⟨(cells_at h6 rfl).1, (cells_at h6 rfl).1, (cells_at h6 rfl).1, (cells_at h6 rfl).1, (cells_at h6 rfl).1, (cells_at h6 rfl).1⟩, a.x0, a.x1, a.x2, a.x3, a.x4, a.x5⟩
         have HSM : Hid (∀ w', Below U5.heap.size U5 w' → Calls Tryz.prog 70 #[.agg #[.string (nm sls), .int .i64 x.ty, .int .i64 x.cl, .int .i64 stl, .slice (some ⟨E, 0, none⟩) 1 1, .slice none 0 0], .agg #[.string (nm (lb x.nm)), .int .i64 x.ty, .int .i64 x.cl, .int .i64 (ttl x), .slice (some ⟨b', 0, none⟩) 1 c', .slice qs 0 es]] w' fun e w'' => e = .returned (.bool (decide (lowR x.ty d = lowR x.ty x.dat))) ∧ Below w'.heap.size w' w'') := fun w' hb => by
          have a := HALk.out _ (K5.trans (Kept.of_below hb))
          have h7 := (hb.block _ (box_lt hE5)).trans hE5
          exact rSame1_in sls (lb x.nm) hlow x.ty x.cl stl (ttl x) d x.dat HOd.out HONE.out E 0 1 b' 0 c' (Nat.le_refl _) (by unfold maxLen; omega) a.c1 a.cm none qs 0 es w' (box_lt h7) (cells_at h7 rfl).1 a.lbb a.xd
         have HEe := Hid.mk hE
         have HU4 := Hid.mk hU4
         have HU5 := Hid.mk hU5
         have HK5 := Hid.mk K5
         have HIn : Hid (lowR x.ty d = lowR x.ty x.dat → R = false) := fun hh => HRt.out ⟨keyS_iff.2 ⟨hlow, rfl, rfl⟩, by
          obtain ⟨hk5, ek5⟩ := HDk.out
          rw [← hh, ← ek5]
          exact List.mem_map_of_mem (List.getElem_mem hk5)⟩
         have HNk : Hid (¬ lowR x.ty d = lowR x.ty x.dat → ∀ j (hj : j < sds.length), j < k + 1 → lowR x.ty sds[j] ≠ lowR x.ty x.dat) := fun hh j hj hji => by
          rcases Nat.lt_succ_iff_lt_or_eq.1 hji with h1 | rfl
          ·exact HJ.out j hj h1
          ·obtain ⟨hk5, ek5⟩ := HDk.out
           rw [ek5]; exact hh
         have H25 := Hid.mk h25
         have h0d : Below U5.heap.size U5 U5.drew := (Below.refl _ _).drew
         clear hE hU4 hU5 hU4b hE4 h24 h25 hE5 K5 HDk HOd HTd
         go_upto_region 16 with fail
         rw [HU4.out, HEe.out, HU5.out]
         clear y4 z4 e4 e5
         refine wp_region_held_drew (S := (fun w' : World => (w'.cell? ⟨D2, 0, none⟩ = some (.string (nm sls)) ∧ w'.cell? ⟨D2, 1, none⟩ = some (.int .i64 x.ty) ∧ w'.cell? ⟨D2, 2, none⟩ = some (.int .i64 x.cl) ∧ w'.cell? ⟨D2, 3, none⟩ = some (.int .i64 stl) ∧ w'.cell? ⟨D2, 4, none⟩ = some (.slice (some ⟨E, 0, none⟩) 1 1) ∧ w'.cell? ⟨D2, 5, none⟩ = some (.slice none 0 0)) ∧ (w'.cell? ⟨g1, 0, none⟩ = some (.string (nm (lb x.nm))) ∧ w'.cell? ⟨g1, 1, none⟩ = some (.int .i64 x.ty) ∧ w'.cell? ⟨g1, 2, none⟩ = some (.int .i64 x.cl) ∧ w'.cell? ⟨g1, 3, none⟩ = some (.int .i64 (ttl x)) ∧ w'.cell? ⟨g1, 4, none⟩ = some (.slice (some ⟨b', 0, none⟩) 1 c') ∧ w'.cell? ⟨g1, 5, none⟩ = some (.slice qs 0 es)))) (by kernel_rfl) (HXS.out _ h0d) (fun hHeld => ?_)
         refine wU (i := 0) (v := ?vm_0) rfl ?ym_0 (by assumption) ?_
         case ym_0 => (intro w hSw; (try dsimp only at hSw); go_simp; try with_reducible rfl)
         refine wU (i := 1) (v := ?vm_1) rfl ?ym_1 (by assumption) ?_
         case ym_1 => (intro w hSw; (try dsimp only at hSw); go_simp; try with_reducible rfl)
         refine wU (i := 2) (v := ?vm_2) rfl ?ym_2 (by assumption) ?_
         case ym_2 => (intro w hSw; (try dsimp only at hSw); go_simp; try with_reducible rfl)
         refine wU (i := 3) (v := ?vm_3) rfl ?ym_3 (by assumption) ?_
         case ym_3 => (intro w hSw; (try dsimp only at hSw); go_simp; try with_reducible rfl)
         try simp only [Act.put, List.getElem_toArray, List.getElem_cons_succ, List.getElem_cons_zero, List.setIfInBounds_toArray, List.set_cons_zero, List.set_cons_succ]
         refine wpAnyH_ready (rs := [4]) (by kernel_rfl) (by simp) ?_
         refine AllReadyH.cons rfl (fun K hK => ?_) AllReadyH.nil
         go_simp
         go_at_call 70
         refine (HSM.out _ h0d).mono ?_
         rintro e w6 ⟨rfl, hb6'⟩
         have hb6 : Below U5.heap.size U5 w6 := h0d.trans hb6'
         refine hK.out _ _ (HXS.out _ hb6) (fun hHeld => ?_)
         clear hK K
         try simp only [Act.put, List.getElem_toArray, List.getElem_cons_succ, List.getElem_cons_zero, List.setIfInBounds_toArray, List.set_cons_zero, List.set_cons_succ]
         refine wU (i := 5) (v := ?vo_5) rfl ?yo_5 (by assumption) ?_
         case yo_5 => (intro w hSw; (try dsimp only at hSw); go_simp; try with_reducible rfl)
         try simp only [Act.put, List.getElem_toArray, List.getElem_cons_succ, List.getElem_cons_zero, List.setIfInBounds_toArray, List.set_cons_zero, List.set_cons_succ]
         refine wpAnyH_done (by kernel_rfl) ?_ _
         clear hHeld
         have H26h : Hid (w6.heap[D2]? = some (.cells #[.string (nm sls), .int .i64 x.ty, .int .i64 x.cl, .int .i64 stl, .slice (some ⟨E, 0, none⟩) 1 1, .slice none 0 0] 44 (0, 0))) := (hb6.block _ (box_lt H25.out)).trans H25.out
         have K6 : Kept D2 U2 w6 := HK5.out.trans (Kept.of_below hb6)
         by_cases hh : lowR x.ty d = lowR x.ty x.dat
         ·obtain rfl := HIn.out hh
          rw [decide_eq_true hh]
          have HF : Hid (Below B W w6) := HW1.out.trans ((HW2U.out.trans (K6.below HDD.out.2.1 HW2U.out.size)).mono HBs.out)
          clear hh
          go_wp2
          go_ret
          exact ⟨rfl, HIN.out _ HF.out⟩
         ·have HNk2 := Hid.mk (HNk.out hh)
          rw [decide_eq_false hh]
          have HK6 := Hid.mk K6
          clear hh
          go_wp2
          go_roundw
          case rel => exact ⟨k + 1, _, _, rfl, by omega, by first | rfl | go_num, HNk2, HK6.out, H26h.out⟩
          case measure => simp [intOf]; omega
        ·have hkz : ¬ (k : Int) < (dl : Int) := by omega
         have HNxt := Hid.mk (HNx.out (fun hin => by
          obtain ⟨z, hz, ez⟩ := List.mem_map.1 hin.2
          obtain ⟨j, hj, rfl⟩ := List.getElem_of_mem hz
          have hdl2 := HDL.out
          have hj2 : j < sds.length := hj
          exact HJ.out j hj2 (by omega) ez))
         have HW4 : Hid (Below w1.heap.size w1 u2) := HW2U.out.trans (HK2.out.1.below HDD.out.2.1 HW2U.out.size)
         go_wp2
         go_roundw
         case rel => exact ⟨i + 1, _, rfl, by omega, by first | rfl | go_num, HNxt, HW4⟩
         case measure => simp [intOf]; omega
      ·have b1 : (sty != x.ty) = false := by rw [hty]; simp
       have b2 : (scl != x.cl) = true := by rw [bne_iff_ne]; exact hcl
       have HNxt := Hid.mk (HNx.out (fun hin => hcl (keyS_iff.1 hin.1).2.2))
       clear hcl hty hq
       go_wp2
       go_roundw
       case rel => exact ⟨i + 1, _, rfl, by omega, by first | rfl | go_num, HNxt, HW2⟩
       case measure => simp [intOf]; omega
     ·have b1 : (sty != x.ty) = true := by rw [bne_iff_ne]; exact hty
      have HNxt := Hid.mk (HNx.out (fun hin => hty (keyS_iff.1 hin.1).2.1))
      clear hty hq
      go_wp2
      go_roundw
      case rel => exact ⟨i + 1, _, rfl, by omega, by first | rfl | go_num, HNxt, HW2⟩
      case measure => simp [intOf]; omega
   ·have hlz : ¬ (i : Int) < (n : Int) := by omega
    obtain rfl := HNO.out (fun j hj => HI.out j hj (by omega))
    have HF : Hid (Below B W u) := HW1.out.trans (HU.out.mono HBs.out)
    go_wp2
    go_ret
    exact ⟨rfl, HIN.out _ HF.out⟩
end Go.Proofs.YtdlcldjlfhmlgaaGreatDoor
