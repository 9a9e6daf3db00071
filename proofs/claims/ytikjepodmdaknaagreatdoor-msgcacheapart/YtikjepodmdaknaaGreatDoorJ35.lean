/- Texts of this proof, joined: McAw. -/
import Derived.Deep.RegionHeld3
import Derived.Deep.CutRange
import Derived.Test.YtikjepodmdaknaaGreatDoorJ34
set_option linter.unusedVariables false
set_option linter.unusedSimpArgs false
/- Layer 17: MsgcacheApart, its walk. -/
namespace Go.Proofs.YtikjepodmdaknaaGreatDoor.Mc
open Go.RowKit
open Go.Proofs.YtikjepodmdaknaaGreatDoor.Rc (pt nilP Ky blk_lt AL Ev EvI timB RCA FrC SvI anew_in keyS pickR pickR_ge pickR_lt seLoad loadAt_se ShC tim_iff)
theorem name_ne {a b : ByteArray} (h : ¬ a = b) : ¬ a.toList = b.toList := fun e => h (by
 rw [ByteArray.toList_eq, ByteArray.toList_eq] at e
 cases a; cases b
 simp at e
 rw [e])
theorem ap_same {now : Int} {A A' : AL} {L L' : KL} {d d0 : Dd} {o1 o3 : Bool} {r1 s1 r3 s3 : Int} {m1 m3 : Nat} (ht : timB now = true) (h1 : Obs (gotA A L d0.q now).2.2 o1 r1 s1 m1) (hs : Sm now A' (gotA A L d0.q now).1) (hL : ∀ k, k ≠ Rc.keyS d.q.nm d.q.ty → Rc.getR L' k = Rc.getR (gotA A L d0.q now).2.1 k) (h3 : Obs (gotA (gotA A' L' d.q now).1 (gotA A' L' d.q now).2.1 d0.q now).2.2 o3 r3 s3 m3) (hne : ¬ (lowA d.q.nm = lowA d0.q.nm ∧ d.q.ty = d0.q.ty)) : o1 = o3 ∧ r1 = r3 ∧ m1 = m3 := by
 have hk : Rc.keyS d0.q.nm d0.q.ty ≠ Rc.keyS d.q.nm d.q.ty := fun e => hne (key_alike e.symm)
 have e := ap_again (A := A) (L := L) (q0 := d0.q) (A3 := (gotA A' L' d.q now).1) (L3 := (gotA A' L' d.q now).2.1) ht (((got_sm ht).trans hs).trans (got_sm ht)) ((got_ne ht hk).trans (hL _ hk))
 rw [e] at h3
 exact h1.same h3
theorem ap_put {now : Int} {A' : AL} {L' : KL} {d : Dd} {z : Int} {kept ok : Bool} {rc se : Int} {n : Nat} (h : (z = 1 ∧ kept = false) ∨ (z = 0 ∧ kept = false ∧ (gotA A' L' d.q now).2.2 = none) ∨ (z = 0 ∧ kept = true ∧ ∃ y, (gotA A' L' d.q now).2.2 = some y ∧ y.rc = d.x.rc ∧ y.se = d.x.se ∧ y.a.length = d.x.a.length)) (ho : Obs (gotA A' L' d.q now).2.2 ok rc se n) : (z = 1 ∧ kept = false) ∨ (z = 0 ∧ kept = false ∧ ok = false) ∨ (z = 0 ∧ kept = true ∧ ok = true ∧ rc = d.x.rc ∧ se = d.x.se ∧ n = d.x.a.length) := by
 rcases h with h | ⟨h1, h2, h3⟩ | ⟨h1, h2, y, h3, h4, h5, h6⟩
 ·exact .inl h
 ·rw [h3] at ho
  rcases ho with ⟨_, h, _⟩ | ⟨x, e, _⟩
  ·exact .inr (.inl ⟨h1, h2, h⟩)
  ·cases e
 ·rw [h3] at ho
  rcases ho with ⟨e, _⟩ | ⟨x, e, a1, a2, a3, a4⟩
  ·cases e
  ·cases e
   exact .inr (.inr ⟨h1, h2, a1, a2.trans h4, a3.trans h5, a4.trans h6⟩)
section
attribute [local go_sem ↓] loadAt_qn loadAt_dd loadAt_se
set_option maxRecDepth 100000 in
set_option maxHeartbeats 32000000 in
theorem apart_walk (W : World) (nw : Int) (hnw : I64 nw) (q : Option Addr) (cap : Nat) (l : List Dd) (hat : DdsAt W q l) (hin : ∀ d ∈ l, DdI d) (hsh : ShC l.length cap q) :
  Calls Tryz.prog 6 #[.slice q l.length cap, .int .i64 nw] W fun e w' => e = .returned (.bool true) ∧ Below W.heap.size W w' := by
 obtain ⟨n, hn⟩ : ∃ n, l.length = n := ⟨_, rfl⟩
 have HE : Hid (∀ w, Calls Tryz.prog 23 #[] w fun e w' => e = .returned (.bool true) ∧ Below w.heap.size w w') := fun w => examples_in w
 have hpk := fun w => pick_big w nw 4294967295 hnw (by omega) (by omega)
 have g0 := pickR_ge nw 4294967295
 have l0 := pickR_lt nw 4294967295 (by omega)
 generalize pickR nw 4294967295 = now at hpk g0 l0
 have HPk := Hid.mk hpk
 have HT : Hid (timB now = true) := tim_iff.2 ⟨by omega, by omega⟩
 have HN : Hid (∀ w, Calls Tryz.prog 10 #[.int .i64 1000] w fun e w' => ∃ C T, e = .returned (.tuple #[pt C, .int .i64 0]) ∧ RCA w w' C T 1000 0 0 []) := fun w => anew_in w 1000 (by omega) (by omega)
 have HM : Hid (∀ W w C T, RCA W w C T 1000 0 0 [] → Calls Tryz.prog 25 #[.int .i64 1000, pt C] w fun e w' => ∃ X U, e = .returned (.tuple #[pt X, .int .i64 0]) ∧ AS0 W w' C T X U 0) := fun W w C T hr => (mnew_in hr 1000 (by omega) (by omega)).mono fun e w' h => by
  obtain ⟨X, U, h1, h2⟩ := h
  exact ⟨X, U, h1, 0, 0, [], Nat.le_refl _, h2⟩
 have HD : Hid (∀ i, i < n → ∃ (b off : Nat) (d : Dd) (p : Pl), q = some ⟨b, off, none⟩ ∧ Hid (DdI d ∧ l[i]? = some d ∧ DdAt W d p) ∧ Hid (∀ w, Below W.heap.size W w → ∀ k, k < 16 → w.cell? ⟨b, off + i * 16 + k, none⟩ = (ddC d p)[k]?)) := fun i hi => by
  obtain ⟨b, off, d, p, e, h1, h2, h3, h4⟩ := dd_given hat hin i (by rw [hn]; exact hi)
  exact ⟨b, off, d, p, e, ⟨h1, h2, h3⟩, h4⟩
 have hnc : n ≤ cap ∧ cap ≤ 9223372036854775807 := by rw [← hn]; have := hsh.1; have := hsh.2.1; unfold maxLen at *; omega
 have HP0 : Hid (∀ W w C T X U i, AS0 W w C T X U i → i ≤ 60 → ∀ (s : Sv), SvI s → ∀ qd cd qg cg, SvAt w s qd cd qg cg → Calls Tryz.prog 13 #[pt C, .agg #[.string s.nm, .int .i64 s.ty, .int .i64 s.cl, .int .i64 s.tl, .slice qd s.ds.length cd, .slice qg s.sg.length cg], .int .i64 3, .int .i64 0, .int .i64 now] w fun e w' => (∃ v, e = .returned v) ∧ AS0 W w' C T X U (i + 1)) := fun W w C T X U i h hi s hs qd cd qg cg ha => as0_put h hi s hs qd cd qg cg ha
 have HG : Hid (∀ W w C T X U i A L, AS W w C T X U i A L → ∀ (k : Qn), QnI k → Calls Tryz.prog 29 #[pt X, .agg #[.string k.nm, .int .i64 k.ty, .int .i64 k.cl], .int .i64 now] w fun e w' => (∃ (rc se un : Int) (q1 : Option Addr) (n1 c1 : Nat) (q2 : Option Addr) (n2 c2 : Nat) (ok : Bool), e = .returned (.tuple #[.agg #[.int .i64 rc, .int .i64 se, .slice q1 n1 c1, .slice q2 n2 c2, .int .i64 un], .bool ok]) ∧ Hid (Obs (gotA A L k now).2.2 ok rc se n1)) ∧ AS W w' C T X U i (gotA A L k now).1 (gotA A L k now).2.1 ∧ FrM w w') := fun W w C T X U i A L h k hk => as_get h HT.out k hk
 have HP : Hid (∀ W1 w C T X U i A L, AS W1 w C T X U i A L → Below W.heap.size W W1 → i ≤ 60 → ∀ (d : Dd) (p : Pl), DdI d → DdAt W d p → Calls Tryz.prog 27 #[pt X, .agg #[.string d.q.nm, .int .i64 d.q.ty, .int .i64 d.q.cl], .agg #[.int .i64 d.x.rc, .int .i64 d.x.se, .slice p.q1 d.x.a.length p.c1, .slice p.q2 d.x.b.length p.c2, .int .i64 d.x.un], .int .i64 now] w fun e w' => ∃ (kept : Bool) (z : Int) (A' : AL) (L' : KL), e = .returned (.tuple #[.bool kept, .int .i64 z]) ∧ AS W1 w' C T X U (i + 1) A' L' ∧ FrM w w' ∧ Hid (Sm now A' A ∧ (∀ k, k ≠ Rc.keyS d.q.nm d.q.ty → Rc.getR L' k = Rc.getR L k) ∧
   ((z = 1 ∧ kept = false) ∨ (z = 0 ∧ kept = false ∧ (gotA A' L' d.q now).2.2 = none) ∨ (z = 0 ∧ kept = true ∧ ∃ y, (gotA A' L' d.q now).2.2 = some y ∧ y.rc = d.x.rc ∧ y.se = d.x.se ∧ y.a.length = d.x.a.length)))) := fun W1 w C T X U i A L h hb hi d p hd hp => as_put h HT.out hi d hd p ⟨hp.ca.1, hp.ca.2.1⟩ ⟨hp.cb.1, hp.cb.2.1⟩ (lat_ss hp.a hb) (lat_ss hp.b hb)
 have HR : Hid (∀ w (k : Qn), QnI k → Calls Tryz.prog 34 #[.agg #[.string k.nm, .int .i64 k.ty, .int .i64 k.cl]] w fun e w' => e = .returned (.string (lowA k.nm)) ∧ Below w.heap.size w w') := fun w k hk => rrn_in k hk.nm w
 have HWW : Hid (Below W.heap.size W W) := Below.refl _ _
 rw [hn]
 clear hpk g0 l0 hat hin hsh hn hnw
 go_enter Tryz.func6, Tryz.ntmps6
 go_wp2_with fail
 refine (HE.out _).mono ?_
 rintro e w1 ⟨rfl, hb1⟩
 have HB1 := Hid.mk hb1
 clear hb1
 go_wp2_with fail
 refine (HN.out _).mono ?_
 rintro e w2 ⟨C, T, rfl, hr2⟩
 have HM2 := Hid.mk (HM.out _ _ _ _ hr2)
 clear hr2
 go_wp2_with fail
 refine HM2.out.mono ?_
 rintro e w3 ⟨X, U, rfl, hm3⟩
 have HM3 := Hid.mk hm3
 clear hm3
 go_wp2_with fail
 refine (HPk.out _).mono ?_
 rintro e w4 ⟨rfl, rfl⟩
 go_wp2_with fail
 go_loopw [10] (fun iv wr => ∃ (i : Nat) (wq : World), wq = wr ∧ i ≤ n ∧ i ≤ 60 ∧ iv = .int .i64 (i : Int) ∧ Hid (AS0 w1 wq C T X U i)) (fun iv _ => n - (intOf iv).toNat)
 case atStart => exact ⟨0, _, rfl, Nat.zero_le _, by omega, rfl, HM3.out⟩
 case round =>
  obtain ⟨i, wq, rfl, hi, hi60, rfl, HI⟩ := hrel
  go_upto_region 10 with fail
  go_cut [45] from 38 to 44 (fun bv wx => ∃ bb : Bool, bv = .bool bb ∧ (bb = true ↔ (i < n ∧ i < 60)) ∧ wx = wq)
  case first =>
   have hlz0 : (0 : Int) ≤ (i : Int) := by omega
   by_cases h1 : i < n
   ·by_cases h2 : i < 60
    ·have hlz : (i : Int) < (n : Int) := by omega
     have hlz6 : (i : Int) < 60 := by omega
     go_wp2
     go_meet
     exact ⟨true, rfl, ⟨fun _ => ⟨h1, h2⟩, fun _ => rfl⟩, rfl⟩
    ·have hlz : (i : Int) < (n : Int) := by omega
     have hlz6 : ¬ (i : Int) < 60 := by omega
     go_wp2
     go_meet
     exact ⟨false, rfl, ⟨fun h => (by cases h), fun h => absurd h.2 h2⟩, rfl⟩
   ·have hlz : ¬ (i : Int) < (n : Int) := by omega
    go_wp2
    go_meet
    exact ⟨false, rfl, ⟨fun h => (by cases h), fun h => absurd h.1 h1⟩, rfl⟩
  case rest =>
  obtain ⟨bb, rfl, hbb, hwc⟩ := hcut
  subst wc
  by_cases hlt : i < n ∧ i < 60
  case pos =>
   obtain rfl : bb = true := hbb.2 hlt
   clear hbb
   have hlz : (i : Int) < (n : Int) := by omega
   have hlz6 : (i : Int) < 60 := by omega
   have hlz0 : (0 : Int) ≤ (i : Int) := by omega
   have wi : IntKind.i64.wrap ((i : Int) + 1) = ((i + 1 : Nat) : Int) := by rw [IntKind.wrap_i64]; omega
   obtain ⟨b, off, d, p, rfl, hd, hc⟩ := HD.out i hlt.1
   have hbw : Below W.heap.size W wq := HB1.out.trans (HI.out.bel.mono HB1.out.size)
   have hls := (dd_loads (hc.out _ hbw)).2.1
   have HC := Hid.mk (HP0.out _ _ _ _ _ _ _ HI.out (by omega) d.s hd.out.1.s _ _ _ _ (hd.out.2.2.s.blk hbw))
   clear hbw
   go_wp2_with fail
   refine HC.out.mono ?_
   rintro e w5 ⟨⟨v, rfl⟩, h5⟩
   have H5 := Hid.mk h5
   clear h5 hls
   go_wp2
   go_roundw
   case rel => exact ⟨i + 1, _, rfl, by omega, by omega, by first | rfl | go_num, H5.out⟩
   case measure => simp [intOf]; omega
  case neg =>
   obtain rfl : bb = false := by cases bb with | false => rfl | true => exact absurd (hbb.1 rfl) hlt
   clear hlt hbb
   go_upto_region 13 with fail
   go_wp2_with fail
   obtain ⟨A0, hA0⟩ := HI.out.as hi60
   have HA0 := Hid.mk hA0
   clear hA0
   go_loopw [11] (fun iv wr => ∃ (k : Nat) (wz : World) (A : AL) (L : KL), wz = wr ∧ k ≤ n ∧ k ≤ 60 ∧ iv = .int .i64 (k : Int) ∧ Hid (AS w1 wz C T X U k A L)) (fun iv _ => n - (intOf iv).toNat)
   case atStart => exact ⟨0, _, A0, [], rfl, Nat.zero_le _, by omega, rfl, HA0.out⟩
   case round =>
    obtain ⟨k, wz, A, L, rfl, hk, hk60, rfl, HK⟩ := hrel
    go_upto_region 14 with fail
    go_cut [63] from 56 to 62 (fun bv wx => ∃ bb : Bool, bv = .bool bb ∧ (bb = true ↔ (k < n ∧ k < 60)) ∧ wx = wz)
    case first =>
     have hlz0 : (0 : Int) ≤ (k : Int) := by omega
     by_cases h1 : k < n
     ·by_cases h2 : k < 60
      ·have hlz : (k : Int) < (n : Int) := by omega
       have hlz6 : (k : Int) < 60 := by omega
       go_wp2
       go_meet
       exact ⟨true, rfl, ⟨fun _ => ⟨h1, h2⟩, fun _ => rfl⟩, rfl⟩
      ·have hlz : (k : Int) < (n : Int) := by omega
       have hlz6 : ¬ (k : Int) < 60 := by omega
       go_wp2
       go_meet
       exact ⟨false, rfl, ⟨fun h => (by cases h), fun h => absurd h.2 h2⟩, rfl⟩
     ·have hlz : ¬ (k : Int) < (n : Int) := by omega
      go_wp2
      go_meet
      exact ⟨false, rfl, ⟨fun h => (by cases h), fun h => absurd h.1 h1⟩, rfl⟩
    case rest =>
    obtain ⟨bb, rfl, hbb, hwc⟩ := hcut
    subst wc
    by_cases hlt : k < n ∧ k < 60
    case neg =>
     obtain rfl : bb = false := by cases bb with | false => rfl | true => exact absurd (hbb.1 rfl) hlt
     clear hlt hbb
     have HF : Hid (Below W.heap.size W wz) := HB1.out.trans (HK.out.bel.mono HB1.out.size)
     go_wp2
     go_ret
     exact ⟨rfl, HF.out⟩
    case pos =>
    obtain rfl : bb = true := hbb.2 hlt
    clear hbb
    have hlz : (k : Int) < (n : Int) := by omega
    have hl1 : (0 : Int) < (n : Int) := by omega
    have hn0 : 0 < n := by omega
    have hlz0 : (0 : Int) ≤ (k : Int) := by omega
    have wi : IntKind.i64.wrap ((k : Int) + 1) = ((k + 1 : Nat) : Int) := by rw [IntKind.wrap_i64]; omega
    obtain ⟨b, off, d, p, rfl, hd, hc⟩ := HD.out k hlt.1
    obtain ⟨b', off', d0, p0, e0, hd0, hc0⟩ := HD.out 0 (by omega)
    cases e0
    have HBel : Hid (∀ u i A L, AS w1 u C T X U i A L → Below W.heap.size W u) := fun u i A L h => HB1.out.trans (h.bel.mono HB1.out.size)
    have HQ0 : Hid (∀ u, Below W.heap.size W u → (qnLoad (.pointer (some ⟨b, off + 8, none⟩))).run Tryz.prog u = .ok (.agg #[.string d0.q.nm, .int .i64 d0.q.ty, .int .i64 d0.q.cl]) u ∧ u.cell? ⟨b, off + 9, none⟩ = some (.int .i64 d0.q.ty)) := fun u hu => by
     have h := dd_loads (b := b) (o := off) (d := d0) (p := p0) (fun k hk => by have := hc0.out u hu k hk; rwa [Nat.zero_mul, Nat.add_zero] at this)
     exact ⟨h.2.2.1, h.2.2.2⟩
    have hbz : Below W.heap.size W wz := HBel.out _ _ _ _ HK.out
    have hl16 : (ddLoad (.pointer (some ⟨b, off + k * 16, none⟩))).run Tryz.prog wz = .ok (.agg #[.int .i64 d.kd, .int .i64 d.nw, .string d.s.nm, .int .i64 d.s.ty, .int .i64 d.s.cl, .int .i64 d.s.tl, .slice p.qd d.s.ds.length p.cd, .slice p.qg d.s.sg.length p.cg, .string d.q.nm, .int .i64 d.q.ty, .int .i64 d.q.cl, .int .i64 d.x.rc, .int .i64 d.x.se, .slice p.q1 d.x.a.length p.c1, .slice p.q2 d.x.b.length p.c2, .int .i64 d.x.un]) wz := (dd_loads (hc.out _ hbz)).1
    obtain ⟨D, hDz⟩ : ∃ D, wz.heap.size = D := ⟨_, rfl⟩
    obtain ⟨V, hV⟩ : ∃ V, wz.alloc (.cells #[.int .i64 d.kd, .int .i64 d.nw, .string d.s.nm, .int .i64 d.s.ty, .int .i64 d.s.cl, .int .i64 d.s.tl, .slice p.qd d.s.ds.length p.cd, .slice p.qg d.s.sg.length p.cg, .string d.q.nm, .int .i64 d.q.ty, .int .i64 d.q.cl, .int .i64 d.x.rc, .int .i64 d.x.se, .slice p.q1 d.x.a.length p.c1, .slice p.q2 d.x.b.length p.c2, .int .i64 d.x.un] 67) = V := ⟨_, rfl⟩
    have bV : Below wz.heap.size wz V := by rw [← hV]; exact (Below.refl _ _).alloc (Nat.le_refl _) _
    have gV : V.heap[D]? = some (.cells #[.int .i64 d.kd, .int .i64 d.nw, .string d.s.nm, .int .i64 d.s.ty, .int .i64 d.s.cl, .int .i64 d.s.tl, .slice p.qd d.s.ds.length p.cd, .slice p.qg d.s.sg.length p.cg, .string d.q.nm, .int .i64 d.q.ty, .int .i64 d.q.cl, .int .i64 d.x.rc, .int .i64 d.x.se, .slice p.q1 d.x.a.length p.c1, .slice p.q2 d.x.b.length p.c2, .int .i64 d.x.un] 67 (0, 0)) := by rw [← hV, ← hDz]; exact heap_alloc_new wz _
    have HV4 := Hid.mk (HK.out.blk bV)
    have HDb : Hid (∀ u, FrM V u → (qnLoad (.pointer (some ⟨D, 8, none⟩))).run Tryz.prog u = .ok (.agg #[.string d.q.nm, .int .i64 d.q.ty, .int .i64 d.q.cl]) u ∧ u.cell? ⟨D, 9, none⟩ = some (.int .i64 d.q.ty) ∧ u.cell? ⟨D, 11, none⟩ = some (.int .i64 d.x.rc) ∧ u.cell? ⟨D, 12, none⟩ = some (.int .i64 d.x.se) ∧ u.cell? ⟨D, 13, none⟩ = some (.slice p.q1 d.x.a.length p.c1) ∧ u.cell? ⟨D, 14, none⟩ = some (.slice p.q2 d.x.b.length p.c2) ∧ u.cell? ⟨D, 15, none⟩ = some (.int .i64 d.x.un)) := fun u hu => dd_box (p := p) (hu.same _ _ _ _ gV (by decide) (by decide) (by decide) (by decide) (by decide))
    have HV := Hid.mk hV
    have HC5 := Hid.mk (HG.out _ _ _ _ _ _ _ _ _ HV4.out d0.q hd0.out.1.q)
    clear hbz bV gV hV
    go_upto_region 17 with fail
    (try rw [hDz])
    rw [HV.out]
    clear hDz hl16
    have x0 := (HQ0.out V (HBel.out _ _ _ _ HV4.out)).1
    go_wp2_with fail
    refine HC5.out.mono ?_
    rintro e w5 ⟨⟨rc1, se1, un1, qa1, na1, ca1, qb1, nb1, cb1, ok1, rfl, HO1⟩, h5, hf5⟩
    clear x0
    obtain ⟨P1, hP1⟩ : ∃ P, w5.heap.size = P := ⟨_, rfl⟩
    obtain ⟨V6, hV6⟩ : ∃ V, w5.alloc (.cells #[.int .i64 rc1, .int .i64 se1, .slice qa1 na1 ca1, .slice qb1 nb1 cb1, .int .i64 un1] 71) = V := ⟨_, rfl⟩
    have b6 : Below w5.heap.size w5 V6 := by rw [← hV6]; exact (Below.refl _ _).alloc (Nat.le_refl _) _
    have g6 : V6.heap[P1]? = some (.cells #[.int .i64 rc1, .int .i64 se1, .slice qa1 na1 ca1, .slice qb1 nb1 cb1, .int .i64 un1] 71 (0, 0)) := by rw [← hV6, ← hP1]; exact heap_alloc_new w5 _
    have H6 := Hid.mk (h5.blk b6)
    have HF6 := Hid.mk (hf5.trans (FrM.below b6))
    have HB6 : Hid (∀ u, FrM V6 u → u.cell? ⟨P1, 0, none⟩ = some (.int .i64 rc1) ∧ u.cell? ⟨P1, 2, none⟩ = some (.slice qa1 na1 ca1)) := fun u hu => by
     have e := hu.same _ _ _ _ g6 (by decide) (by decide) (by decide) (by decide) (by decide)
     exact ⟨by rw [So.cell_blk e]; rfl, by rw [So.cell_blk e]; rfl⟩
    have HV6 := Hid.mk hV6
    have HC7 := Hid.mk (HP.out _ _ _ _ _ _ _ _ _ H6.out HB1.out hk60 d p hd.out.1 hd.out.2.2)
    clear h5 hf5 hV6 b6 g6
    go_upto_region 18 with fail
    (try rw [hP1])
    rw [HV6.out]
    clear hP1
    obtain ⟨y0, y1, y2, y3, y4, y5, y6⟩ := HDb.out _ HF6.out
    go_wp2_with fail
    refine HC7.out.mono ?_
    rintro e w7 ⟨kept, z, A', L', rfl, h7, hf7, HS7⟩
    have H7 := Hid.mk h7
    have HF7 := Hid.mk (HF6.out.trans hf7)
    have HF67 := Hid.mk hf7
    clear y0 y1 y2 y3 y4 y5 y6 h7 hf7
    have HC8 := Hid.mk (HG.out _ _ _ _ _ _ _ _ _ H7.out d.q hd.out.1.q)
    obtain ⟨y0, y1, y2, y3, y4, y5, y6⟩ := HDb.out _ HF7.out
    go_wp2_with fail
    refine HC8.out.mono ?_
    rintro e w8 ⟨⟨rc2, se2, un2, qa2, na2, ca2, qb2, nb2, cb2, ok2, rfl, HO2⟩, h8, hf8⟩
    clear y0 y1 y2 y3 y4 y5 y6
    obtain ⟨P2, hP2⟩ : ∃ P, w8.heap.size = P := ⟨_, rfl⟩
    obtain ⟨V9, hV9⟩ : ∃ V, w8.alloc (.cells #[.int .i64 rc2, .int .i64 se2, .slice qa2 na2 ca2, .slice qb2 nb2 cb2, .int .i64 un2] 71) = V := ⟨_, rfl⟩
    have b9 : Below w8.heap.size w8 V9 := by rw [← hV9]; exact (Below.refl _ _).alloc (Nat.le_refl _) _
    have g9 : V9.heap[P2]? = some (.cells #[.int .i64 rc2, .int .i64 se2, .slice qa2 na2 ca2, .slice qb2 nb2 cb2, .int .i64 un2] 71 (0, 0)) := by rw [← hV9, ← hP2]; exact heap_alloc_new w8 _
    have H9 := Hid.mk (h8.blk b9)
    have HF9 := Hid.mk ((HF7.out.trans hf8).trans (FrM.below b9))
    have HF69 := Hid.mk ((HF67.out.trans hf8).trans (FrM.below b9))
    have a0 : V9.cell? ⟨P2, 0, none⟩ = some (.int .i64 rc2) := by rw [So.cell_blk g9]; rfl
    have a1 : V9.cell? ⟨P2, 1, none⟩ = some (.int .i64 se2) := by rw [So.cell_blk g9]; rfl
    have a2 : V9.cell? ⟨P2, 2, none⟩ = some (.slice qa2 na2 ca2) := by rw [So.cell_blk g9]; rfl
    have HX := Hid.mk (ap_put HS7.out.2.2 HO2.out)
    have HV9 := Hid.mk hV9
    clear h8 hf8 hV9 b9 g9
    go_upto_region 20 with fail
    (try rw [hP2])
    rw [HV9.out]
    clear hP2
    obtain ⟨y0, y1, y2, y3, y4, y5, y6⟩ := HDb.out _ HF9.out
    go_cut [139] from 107 to 138 (fun bv wx => bv = .bool false ∧ wx = V9)
    case first =>
     rcases HX.out with ⟨rfl, rfl⟩ | ⟨rfl, rfl, rfl⟩ | ⟨rfl, rfl, rfl, rfl, rfl, rfl⟩
     ·go_wp2
      go_meet
      exact ⟨rfl, rfl⟩
     ·go_wp2
      go_meet
      exact ⟨rfl, rfl⟩
     ·go_wp2
      go_meet
      exact ⟨rfl, rfl⟩
    case rest =>
    obtain ⟨rfl, hwc⟩ := hcut
    subst wc
    clear a0 a1 a2 y0 y1 y2 y3 y4 y5 y6
    have HC10 := Hid.mk (HG.out _ _ _ _ _ _ _ _ _ H9.out d0.q hd0.out.1.q)
    have x0 := (HQ0.out V9 (HBel.out _ _ _ _ H9.out)).1
    go_wp2_with fail
    refine HC10.out.mono ?_
    rintro e w10 ⟨⟨rc3, se3, un3, qa3, na3, ca3, qb3, nb3, cb3, ok3, rfl, HO3⟩, h10, hf10⟩
    clear x0
    obtain ⟨P3, hP3⟩ : ∃ P, w10.heap.size = P := ⟨_, rfl⟩
    obtain ⟨V11, hV11⟩ : ∃ V, w10.alloc (.cells #[.int .i64 rc3, .int .i64 se3, .slice qa3 na3 ca3, .slice qb3 nb3 cb3, .int .i64 un3] 71) = V := ⟨_, rfl⟩
    have b11 : Below w10.heap.size w10 V11 := by rw [← hV11]; exact (Below.refl _ _).alloc (Nat.le_refl _) _
    have g11 : V11.heap[P3]? = some (.cells #[.int .i64 rc3, .int .i64 se3, .slice qa3 na3 ca3, .slice qb3 nb3 cb3, .int .i64 un3] 71 (0, 0)) := by rw [← hV11, ← hP3]; exact heap_alloc_new w10 _
    have H11 := Hid.mk (h10.blk b11)
    have HF11 := Hid.mk ((HF9.out.trans hf10).trans (FrM.below b11))
    have HF611 := Hid.mk ((HF69.out.trans hf10).trans (FrM.below b11))
    have HB11 : Hid (∀ u, FrM V11 u → u.cell? ⟨P3, 0, none⟩ = some (.int .i64 rc3) ∧ u.cell? ⟨P3, 2, none⟩ = some (.slice qa3 na3 ca3)) := fun u hu => by
     have e := hu.same _ _ _ _ g11 (by decide) (by decide) (by decide) (by decide) (by decide)
     exact ⟨by rw [So.cell_blk e]; rfl, by rw [So.cell_blk e]; rfl⟩
    have HY : Hid (¬ (lowA d.q.nm = lowA d0.q.nm ∧ d.q.ty = d0.q.ty) → ok1 = ok3 ∧ rc1 = rc3 ∧ na1 = na3) := ap_same HT.out HO1.out HS7.out.1 HS7.out.2.1 HO3.out
    have HV11 := Hid.mk hV11
    clear h10 hf10 hV11 b11 g11
    go_upto_region 23 with fail
    (try rw [hP3])
    rw [HV11.out]
    clear hP3
    have HSt : Hid (∀ u A L, FrM V11 u → AS w1 u C T X U (k + 1) A L → (fun w : World => (qnLoad (.pointer (some ⟨D, 8, none⟩))).run Tryz.prog w = .ok (.agg #[.string d.q.nm, .int .i64 d.q.ty, .int .i64 d.q.cl]) w ∧ w.cell? ⟨D, 9, none⟩ = some (.int .i64 d.q.ty) ∧ (qnLoad (.pointer (some ⟨b, off + 8, none⟩))).run Tryz.prog w = .ok (.agg #[.string d0.q.nm, .int .i64 d0.q.ty, .int .i64 d0.q.cl]) w ∧ w.cell? ⟨b, off + 9, none⟩ = some (.int .i64 d0.q.ty)) u) := fun u A L hu hs => ⟨(HDb.out _ (HF11.out.trans hu)).1, (HDb.out _ (HF11.out.trans hu)).2.1, HQ0.out _ (HBel.out _ _ _ _ hs)⟩
    have H11d := Hid.mk (H11.out.blk (Below.refl _ _).drew)
    have HF11d : Hid (FrM V11 (World.drew V11)) := FrM.below (Below.refl _ _).drew
    refine wp_region_held_drew (S := (fun w : World => (qnLoad (.pointer (some ⟨D, 8, none⟩))).run Tryz.prog w = .ok (.agg #[.string d.q.nm, .int .i64 d.q.ty, .int .i64 d.q.cl]) w ∧ w.cell? ⟨D, 9, none⟩ = some (.int .i64 d.q.ty) ∧ (qnLoad (.pointer (some ⟨b, off + 8, none⟩))).run Tryz.prog w = .ok (.agg #[.string d0.q.nm, .int .i64 d0.q.ty, .int .i64 d0.q.cl]) w ∧ w.cell? ⟨b, off + 9, none⟩ = some (.int .i64 d0.q.ty))) (by kernel_rfl) (HSt.out _ _ _ HF11d.out H11d.out) (fun hHeld => ?_)
    refine wU (i := 0) (v := ?va_0) rfl ?ya_0 (by assumption) ?_
    case ya_0 => (intro w hSw; (try dsimp only at hSw); go_simp; try with_reducible rfl)
    refine wU (i := 1) (v := ?va_1) rfl ?ya_1 (by assumption) ?_
    case ya_1 => (intro w hSw; (try dsimp only at hSw); go_simp; try with_reducible rfl)
    refine wU (i := 3) (v := ?va_3) rfl ?ya_3 (by assumption) ?_
    case ya_3 => (intro w hSw; (try dsimp only at hSw); go_simp; try with_reducible rfl)
    refine wU (i := 4) (v := ?va_4) rfl ?ya_4 (by assumption) ?_
    case ya_4 => (intro w hSw; (try dsimp only at hSw); go_simp; try with_reducible rfl)
    refine wU (i := 5) (v := ?va_5) rfl ?ya_5 (by assumption) ?_
    case ya_5 => (intro w hSw; (try dsimp only at hSw); go_simp; try with_reducible rfl)
    refine wU (i := 6) (v := ?va_6) rfl ?ya_6 (by assumption) ?_
    case ya_6 => (intro w hSw; (try dsimp only at hSw); go_simp; try with_reducible rfl)
    try simp only [Act.put, List.getElem_toArray, List.getElem_cons_succ, List.getElem_cons_zero, List.setIfInBounds_toArray, List.set_cons_zero, List.set_cons_succ]
    refine wpAnyH_ready (rs := [2]) (by kernel_rfl) (by simp) ?_
    refine AllReadyH.cons rfl (fun K hK => ?_) AllReadyH.nil
    go_simp
    go_at_call 34
    refine (HR.out _ d.q hd.out.1.q).mono ?_
    rintro e w12 ⟨rfl, hb12⟩
    have H12 := Hid.mk (H11d.out.blk hb12)
    have HF12 := Hid.mk (HF11d.out.trans (FrM.below hb12))
    clear hb12
    refine hK.out _ _ (HSt.out _ _ _ HF12.out H12.out) (fun hHeld => ?_)
    clear hK
    try simp only [Act.put, List.getElem_toArray, List.getElem_cons_succ, List.getElem_cons_zero, List.setIfInBounds_toArray, List.set_cons_zero, List.set_cons_succ]
    refine wpAnyH_ready (rs := [7]) (by kernel_rfl) (by simp) ?_
    refine AllReadyH.cons rfl (fun K hK => ?_) AllReadyH.nil
    go_simp
    go_at_call 34
    refine (HR.out _ d0.q hd0.out.1.q).mono ?_
    rintro e w13 ⟨rfl, hb13⟩
    have H13 := Hid.mk (H12.out.blk hb13)
    have HF13 := Hid.mk (HF12.out.trans (FrM.below hb13))
    clear hb13
    refine hK.out _ _ (HSt.out _ _ _ HF13.out H13.out) (fun hHeld => ?_)
    clear hK
    try simp only [Act.put, List.getElem_toArray, List.getElem_cons_succ, List.getElem_cons_zero, List.setIfInBounds_toArray, List.set_cons_zero, List.set_cons_succ]
    obtain ⟨x, hx⟩ : ∃ x, lowA d.q.nm = x := ⟨_, rfl⟩
    obtain ⟨y, hy⟩ : ∃ y, lowA d0.q.nm = y := ⟨_, rfl⟩
    rw [hx, hy] at HY ⊢
    clear hx hy
    have HZ : Hid ((w13.cell? ⟨P1, 0, none⟩ = some (.int .i64 rc1) ∧ w13.cell? ⟨P1, 2, none⟩ = some (.slice qa1 na1 ca1)) ∧ (w13.cell? ⟨P3, 0, none⟩ = some (.int .i64 rc3) ∧ w13.cell? ⟨P3, 2, none⟩ = some (.slice qa3 na3 ca3))) := ⟨HB6.out _ (HF611.out.trans HF13.out), HB11.out _ HF13.out⟩
    by_cases hnm : x = y
    ·subst hnm
     by_cases hty : d.q.ty = d0.q.ty
     ·have e1 : (d.q.ty == d0.q.ty) = true := by simpa using hty
      refine wpAnyH_take (i := 8) (v := .bool true) rfl (by kernel_rfl) (by kernel_rfl) (by kernel_rfl) (fun _ _ _ h => h) (Or.inl ⟨by kernel_rfl, ?ybtrue_8⟩) (by assumption) ?_
      case ybtrue_8 => (intro w hSw; (try dsimp only at hSw); go_simp; try with_reducible rfl)
      refine wpAnyH_take (i := 9) (v := .bool true) rfl (by kernel_rfl) (by kernel_rfl) (by kernel_rfl) (fun _ _ _ h => h) (Or.inl ⟨by kernel_rfl, ?yctrue_9⟩) (by assumption) ?_
      case yctrue_9 => (intro w hSw; (try dsimp only at hSw); go_simp; try with_reducible rfl)
      try simp only [Act.put, List.getElem_toArray, List.getElem_cons_succ, List.getElem_cons_zero, List.setIfInBounds_toArray, List.set_cons_zero, List.set_cons_succ]
      refine wU (i := 10) (v := ?vdtrue_10) rfl ?ydtrue_10 (by assumption) ?_
      case ydtrue_10 => (intro w hSw; (try dsimp only at hSw); go_simp; try with_reducible rfl)
      refine wU (i := 11) (v := ?vdtrue_11) rfl ?ydtrue_11 (by assumption) ?_
      case ydtrue_11 => (intro w hSw; (try dsimp only at hSw); go_simp; try with_reducible rfl)
      refine wU (i := 12) (v := ?vdtrue_12) rfl ?ydtrue_12 (by assumption) ?_
      case ydtrue_12 => (intro w hSw; (try dsimp only at hSw); go_simp; try with_reducible rfl)
      refine wU (i := 13) (v := ?vdtrue_13) rfl ?ydtrue_13 (by assumption) ?_
      case ydtrue_13 => (intro w hSw; (try dsimp only at hSw); go_simp; try with_reducible rfl)
      refine wU (i := 14) (v := ?vdtrue_14) rfl ?ydtrue_14 (by assumption) ?_
      case ydtrue_14 => (intro w hSw; (try dsimp only at hSw); go_simp; try with_reducible rfl)
      refine wU (i := 15) (v := ?vdtrue_15) rfl ?ydtrue_15 (by assumption) ?_
      case ydtrue_15 => (intro w hSw; (try dsimp only at hSw); go_simp; try with_reducible rfl)
      refine wU (i := 16) (v := ?vdtrue_16) rfl ?ydtrue_16 (by assumption) ?_
      case ydtrue_16 => (intro w hSw; (try dsimp only at hSw); go_simp; try with_reducible rfl)
      refine wU (i := 17) (v := ?vdtrue_17) rfl ?ydtrue_17 (by assumption) ?_
      case ydtrue_17 => (intro w hSw; (try dsimp only at hSw); go_simp; try with_reducible rfl)
      try simp only [Act.put, List.getElem_toArray, List.getElem_cons_succ, List.getElem_cons_zero, List.setIfInBounds_toArray, List.set_cons_zero, List.set_cons_succ]
      refine wpAnyH_take (i := 18) (v := .bool true) rfl (by kernel_rfl) (by kernel_rfl) (by kernel_rfl) (fun _ _ _ h => h) (Or.inl ⟨by kernel_rfl, ?yetrue_18⟩) (by assumption) ?_
      case yetrue_18 => (intro w hSw; (try dsimp only at hSw); go_simp; try with_reducible rfl)
      try simp only [Act.put, List.getElem_toArray, List.getElem_cons_succ, List.getElem_cons_zero, List.setIfInBounds_toArray, List.set_cons_zero, List.set_cons_succ]
      refine wpAnyH_take (i := 19) (v := .bool true) rfl (by kernel_rfl) (by kernel_rfl) (by kernel_rfl) (fun _ _ _ h => h) (Or.inl ⟨by kernel_rfl, ?yftrue_19⟩) (by assumption) ?_
      case yftrue_19 => (intro w hSw; (try dsimp only at hSw); go_simp; try with_reducible rfl)
      try simp only [Act.put, List.getElem_toArray, List.getElem_cons_succ, List.getElem_cons_zero, List.setIfInBounds_toArray, List.set_cons_zero, List.set_cons_succ]
      refine wpAnyH_take (i := 20) (v := .bool true) rfl (by kernel_rfl) (by kernel_rfl) (by kernel_rfl) (fun _ _ _ h => h) (Or.inl ⟨by kernel_rfl, ?ygtrue_20⟩) (by assumption) ?_
      case ygtrue_20 => (intro w hSw; (try dsimp only at hSw); go_simp; try with_reducible rfl)
      try simp only [Act.put, List.getElem_toArray, List.getElem_cons_succ, List.getElem_cons_zero, List.setIfInBounds_toArray, List.set_cons_zero, List.set_cons_succ]
      refine wpAnyH_done (by kernel_rfl) ?_ _
      clear hHeld e1
      go_wp2
      go_roundw
      case rel => exact ⟨k + 1, _, _, _, rfl, by omega, by omega, by first | rfl | go_num, H13.out⟩
      case measure => simp [intOf]; omega
     ·have e1 : (d.q.ty == d0.q.ty) = false := by simpa using hty
      refine wpAnyH_take (i := 8) (v := .bool true) rfl (by kernel_rfl) (by kernel_rfl) (by kernel_rfl) (fun _ _ _ h => h) (Or.inl ⟨by kernel_rfl, ?ybfalse_8⟩) (by assumption) ?_
      case ybfalse_8 => (intro w hSw; (try dsimp only at hSw); go_simp; try with_reducible rfl)
      refine wpAnyH_take (i := 9) (v := .bool true) rfl (by kernel_rfl) (by kernel_rfl) (by kernel_rfl) (fun _ _ _ h => h) (Or.inl ⟨by kernel_rfl, ?ycfalse_9⟩) (by assumption) ?_
      case ycfalse_9 => (intro w hSw; (try dsimp only at hSw); go_simp; try with_reducible rfl)
      try simp only [Act.put, List.getElem_toArray, List.getElem_cons_succ, List.getElem_cons_zero, List.setIfInBounds_toArray, List.set_cons_zero, List.set_cons_succ]
      refine wU (i := 10) (v := ?vdfalse_10) rfl ?ydfalse_10 (by assumption) ?_
      case ydfalse_10 => (intro w hSw; (try dsimp only at hSw); go_simp; try with_reducible rfl)
      refine wU (i := 11) (v := ?vdfalse_11) rfl ?ydfalse_11 (by assumption) ?_
      case ydfalse_11 => (intro w hSw; (try dsimp only at hSw); go_simp; try with_reducible rfl)
      refine wU (i := 12) (v := ?vdfalse_12) rfl ?ydfalse_12 (by assumption) ?_
      case ydfalse_12 => (intro w hSw; (try dsimp only at hSw); go_simp; try with_reducible rfl)
      refine wU (i := 13) (v := ?vdfalse_13) rfl ?ydfalse_13 (by assumption) ?_
      case ydfalse_13 => (intro w hSw; (try dsimp only at hSw); go_simp; try with_reducible rfl)
      refine wU (i := 14) (v := ?vdfalse_14) rfl ?ydfalse_14 (by assumption) ?_
      case ydfalse_14 => (intro w hSw; (try dsimp only at hSw); go_simp; try with_reducible rfl)
      refine wU (i := 15) (v := ?vdfalse_15) rfl ?ydfalse_15 (by assumption) ?_
      case ydfalse_15 => (intro w hSw; (try dsimp only at hSw); go_simp; try with_reducible rfl)
      refine wU (i := 16) (v := ?vdfalse_16) rfl ?ydfalse_16 (by assumption) ?_
      case ydfalse_16 => (intro w hSw; (try dsimp only at hSw); go_simp; try with_reducible rfl)
      refine wU (i := 17) (v := ?vdfalse_17) rfl ?ydfalse_17 (by assumption) ?_
      case ydfalse_17 => (intro w hSw; (try dsimp only at hSw); go_simp; try with_reducible rfl)
      try simp only [Act.put, List.getElem_toArray, List.getElem_cons_succ, List.getElem_cons_zero, List.setIfInBounds_toArray, List.set_cons_zero, List.set_cons_succ]
      refine wpAnyH_take (i := 18) (v := .bool false) rfl (by kernel_rfl) (by kernel_rfl) (by kernel_rfl) (fun _ _ _ h => h) (Or.inl ⟨by kernel_rfl, ?yefalse_18⟩) (by assumption) ?_
      case yefalse_18 => (intro w hSw; (try dsimp only at hSw); go_simp; try with_reducible rfl)
      try simp only [Act.put, List.getElem_toArray, List.getElem_cons_succ, List.getElem_cons_zero, List.setIfInBounds_toArray, List.set_cons_zero, List.set_cons_succ]
      refine wpAnyH_take (i := 19) (v := .bool false) rfl (by kernel_rfl) (by kernel_rfl) (by kernel_rfl) (fun _ _ _ h => h) (Or.inl ⟨by kernel_rfl, ?yffalse_19⟩) (by assumption) ?_
      case yffalse_19 => (intro w hSw; (try dsimp only at hSw); go_simp; try with_reducible rfl)
      try simp only [Act.put, List.getElem_toArray, List.getElem_cons_succ, List.getElem_cons_zero, List.setIfInBounds_toArray, List.set_cons_zero, List.set_cons_succ]
      refine wpAnyH_take (i := 20) (v := .bool false) rfl (by kernel_rfl) (by kernel_rfl) (by kernel_rfl) (fun _ _ _ h => h) (Or.inl ⟨by kernel_rfl, ?ygfalse_20⟩) (by assumption) ?_
      case ygfalse_20 => (intro w hSw; (try dsimp only at hSw); go_simp; try with_reducible rfl)
      try simp only [Act.put, List.getElem_toArray, List.getElem_cons_succ, List.getElem_cons_zero, List.setIfInBounds_toArray, List.set_cons_zero, List.set_cons_succ]
      refine wpAnyH_done (by kernel_rfl) ?_ _
      clear hHeld e1
      obtain ⟨rfl, rfl, rfl⟩ := HY.out (fun h => hty h.2)
      obtain ⟨⟨m0, m1⟩, m2, m3⟩ := HZ.out
      have f1 : (ok1 != ok1) = false := by cases ok1 <;> rfl
      have f2 : (rc1 != rc1) = false := by simp
      have f3 : ((na1 : Int) != (na1 : Int)) = false := by simp
      go_wp2
      go_roundw
      case rel => exact ⟨k + 1, _, _, _, rfl, by omega, by omega, by first | rfl | go_num, H13.out⟩
      case measure => simp [intOf]; omega
    ·have e2 : ¬ x.toList = y.toList := name_ne hnm
     refine wpAnyH_take (i := 8) (v := .bool false) rfl (by kernel_rfl) (by kernel_rfl) (by kernel_rfl) (fun _ _ _ h => h) (Or.inl ⟨by kernel_rfl, ?yh_8⟩) (by assumption) ?_
     case yh_8 => (intro w hSw; (try dsimp only at hSw); go_simp; try with_reducible rfl)
     refine wpAnyH_take (i := 9) (v := .bool false) rfl (by kernel_rfl) (by kernel_rfl) (by kernel_rfl) (fun _ _ _ h => h) (Or.inl ⟨by kernel_rfl, ?yi_9⟩) (by assumption) ?_
     case yi_9 => (intro w hSw; (try dsimp only at hSw); go_simp; try with_reducible rfl)
     try simp only [Act.put, List.getElem_toArray, List.getElem_cons_succ, List.getElem_cons_zero, List.setIfInBounds_toArray, List.set_cons_zero, List.set_cons_succ]
     refine wT (i := 10) (v := undef) rfl (Or.inr ⟨by kernel_rfl, rfl⟩) (by assumption) ?_
     refine wT (i := 11) (v := undef) rfl (Or.inr ⟨by kernel_rfl, rfl⟩) (by assumption) ?_
     refine wT (i := 12) (v := undef) rfl (Or.inr ⟨by kernel_rfl, rfl⟩) (by assumption) ?_
     refine wT (i := 13) (v := undef) rfl (Or.inr ⟨by kernel_rfl, rfl⟩) (by assumption) ?_
     refine wT (i := 14) (v := undef) rfl (Or.inr ⟨by kernel_rfl, rfl⟩) (by assumption) ?_
     refine wT (i := 15) (v := undef) rfl (Or.inr ⟨by kernel_rfl, rfl⟩) (by assumption) ?_
     refine wT (i := 16) (v := undef) rfl (Or.inr ⟨by kernel_rfl, rfl⟩) (by assumption) ?_
     refine wT (i := 17) (v := undef) rfl (Or.inr ⟨by kernel_rfl, rfl⟩) (by assumption) ?_
     refine wT (i := 18) (v := undef) rfl (Or.inr ⟨by kernel_rfl, rfl⟩) (by assumption) ?_
     try simp only [Act.put, List.getElem_toArray, List.getElem_cons_succ, List.getElem_cons_zero, List.setIfInBounds_toArray, List.set_cons_zero, List.set_cons_succ]
     refine wpAnyH_take (i := 19) (v := .bool false) rfl (by kernel_rfl) (by kernel_rfl) (by kernel_rfl) (fun _ _ _ h => h) (Or.inl ⟨by kernel_rfl, ?yj_19⟩) (by assumption) ?_
     case yj_19 => (intro w hSw; (try dsimp only at hSw); go_simp; try with_reducible rfl)
     try simp only [Act.put, List.getElem_toArray, List.getElem_cons_succ, List.getElem_cons_zero, List.setIfInBounds_toArray, List.set_cons_zero, List.set_cons_succ]
     refine wpAnyH_take (i := 20) (v := .bool false) rfl (by kernel_rfl) (by kernel_rfl) (by kernel_rfl) (fun _ _ _ h => h) (Or.inl ⟨by kernel_rfl, ?yk_20⟩) (by assumption) ?_
     case yk_20 => (intro w hSw; (try dsimp only at hSw); go_simp; try with_reducible rfl)
     try simp only [Act.put, List.getElem_toArray, List.getElem_cons_succ, List.getElem_cons_zero, List.setIfInBounds_toArray, List.set_cons_zero, List.set_cons_succ]
     refine wpAnyH_done (by kernel_rfl) ?_ _
     clear hHeld e2
     obtain ⟨rfl, rfl, rfl⟩ := HY.out (fun h => hnm h.1)
     obtain ⟨⟨m0, m1⟩, m2, m3⟩ := HZ.out
     have f1 : (ok1 != ok1) = false := by cases ok1 <;> rfl
     have f2 : (rc1 != rc1) = false := by simp
     have f3 : ((na1 : Int) != (na1 : Int)) = false := by simp
     go_wp2
     go_roundw
     case rel => exact ⟨k + 1, _, _, _, rfl, by omega, by omega, by first | rfl | go_num, H13.out⟩
     case measure => simp [intOf]; omega
end
end Go.Proofs.YtikjepodmdaknaaGreatDoor.Mc
