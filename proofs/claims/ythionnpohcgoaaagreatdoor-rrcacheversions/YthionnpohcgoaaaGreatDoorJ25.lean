/- Texts of this proof, joined: RcVw. -/
import Derived.Deep.RegionHeld3
import Derived.Test.YthionnpohcgoaaaGreatDoorJ24
set_option linter.unusedVariables false
set_option linter.unusedSimpArgs false
/- Layer 16: RrcacheVersions. -/
namespace Go.Proofs.YthionnpohcgoaaaGreatDoor.Rc
open Go.RowKit
theorem dd_cells {w : World} {D : Nat} {d : Dd} {qd : Option Addr} {cd : Nat} {qg : Option Addr} {cg : Nat} (h : w.heap[D]? = some (.cells #[.int .i64 d.kd, .string d.s.nm, .int .i64 d.s.ty, .int .i64 d.s.cl, .int .i64 d.s.tl, .slice qd d.s.ds.length cd, .slice qg d.s.sg.length cg, .int .i64 d.rk, .int .i64 d.se, .int .i64 d.ve, .int .i64 d.nw] 36 (0, 0))) : w.cell? ⟨D, 0, none⟩ = some (.int .i64 d.kd) ∧ (w.cell? ⟨D, 1, none⟩ = some (.string d.s.nm) ∧ w.cell? ⟨D, 2, none⟩ = some (.int .i64 d.s.ty) ∧ w.cell? ⟨D, 3, none⟩ = some (.int .i64 d.s.cl) ∧ w.cell? ⟨D, 4, none⟩ = some (.int .i64 d.s.tl) ∧ w.cell? ⟨D, 5, none⟩ = some (.slice qd d.s.ds.length cd) ∧ w.cell? ⟨D, 6, none⟩ = some (.slice qg d.s.sg.length cg)) ∧ w.cell? ⟨D, 7, none⟩ = some (.int .i64 d.rk) ∧ w.cell? ⟨D, 8, none⟩ = some (.int .i64 d.se) ∧ w.cell? ⟨D, 9, none⟩ = some (.int .i64 d.ve) ∧ w.cell? ⟨D, 10, none⟩ = some (.int .i64 d.nw) := by
 refine ⟨?_, ⟨?_, ?_, ?_, ?_, ?_, ?_⟩, ?_, ?_, ?_, ?_⟩ <;> (rw [So.cell_blk h]; rfl)
section
attribute [local go_sem ↓] app_se loadAt_de
set_option maxRecDepth 100000 in
set_option maxHeartbeats 32000000 in
theorem versions_walk (W : World) (most : Int) (hmost : I64 most) (q : Option Addr) (cap : Nat) (l : List Dd) (hat : DdsAt W q l) (hin : ∀ d ∈ l, DdI d) (hsh : ShC l.length cap q) :
  Calls Tryz.prog 5 #[.int .i64 most, .slice q l.length cap] W fun e w' => e = .returned (.bool true) ∧ Below W.heap.size W w' := by
 obtain ⟨N, hN⟩ : ∃ N, W.heap.size = N := ⟨_, rfl⟩
 obtain ⟨n, hn⟩ : ∃ n, l.length = n := ⟨_, rfl⟩
 obtain ⟨m, hm⟩ : ∃ m : Nat, (m : Int) = 1 + pickR most 9 := ⟨(1 + pickR most 9).toNat, by have := pickR_ge most 9; omega⟩
 have hmb : 1 ≤ m ∧ m ≤ 9 := by have := pickR_ge most 9; have := pickR_lt most 9 (by omega); omega
 have hp : pickR most 9 = (m : Int) - 1 := by omega
 have hwr : IntKind.i64.wrap (1 + ((m : Int) - 1)) = (m : Int) := by rw [IntKind.wrap_i64]; omega
 have HE := Hid.mk examples_in
 have HPk : Hid (∀ w, Calls Tryz.prog 9 #[.int .i64 most, .int .i64 9] w fun e w' => e = .returned (.int .i64 ((m : Int) - 1)) ∧ w' = w) := fun w => by have := pick_in w most 9 hmost (by omega) (by omega); rw [hp] at this; exact this
 have HNw : Hid (∀ w, Calls Tryz.prog 8 #[.int .i64 (m : Int)] w fun e w' => ∃ C T, e = .returned (.tuple #[pt C, .int .i64 0]) ∧ RCA w w' C T m 0 0 []) := fun w => anew_in w m hmb.1 (by omega)
 have HD : Hid (∀ i, i < n → ∃ (b off : Nat) (d : Dd) (qd : Option Addr) (cd : Nat) (qg : Option Addr) (cg : Nat), q = some ⟨b, off, none⟩ ∧ Hid (DdI d) ∧ Hid (∀ w, Below N W w → (deLoad (.pointer (some ⟨b, off + i * 11, none⟩))).run Tryz.prog w = .ok (.agg #[.int .i64 d.kd, .string d.s.nm, .int .i64 d.s.ty, .int .i64 d.s.cl, .int .i64 d.s.tl, .slice qd d.s.ds.length cd, .slice qg d.s.sg.length cg, .int .i64 d.rk, .int .i64 d.se, .int .i64 d.ve, .int .i64 d.nw]) w ∧ SvAt w d.s qd cd qg cg)) := fun i hi => by
  obtain ⟨b, off, d, qd, cd, qg, cg, e, _, hd, h⟩ := dd_at hat i (by rw [hn]; exact hi)
  rw [hN] at h
  exact ⟨b, off, d, qd, cd, qg, cg, e, hin d hd, h⟩
 have hnc : n ≤ cap ∧ cap ≤ 9223372036854775807 := by have := hsh.1; have := hsh.2.1; unfold maxLen at *; omega
 have HVP : Hid (∀ w C T k i v ln, VS W w C T m k i v ln → k ≤ 1000 → ∀ (s : Sv), SvI s → ∀ qd cd qg cg, SvAt w s qd cd qg cg → ∀ rk se now, Calls Tryz.prog 11 #[pt C, .agg (svC s qd cd qg cg).toArray, .int .i64 rk, .int .i64 se, .int .i64 now] w fun e w' => FrC w w' ∧ (∃ b1 e1, e = .returned (.tuple #[.bool b1, .int .i64 e1])) ∧ VS W w' C T m (k + 1) i v ln) := fun w C T k i v ln h hk s hs qd cd qg cg ha rk se now => vs_put h hk s hs qd cd qg cg ha rk se now
 have HVG : Hid (∀ w C T k i v ln, VS W w C T m k i v ln → ∀ nm, nm.size ≤ maxLen → ∀ kd now, I64 kd → Calls Tryz.prog 13 #[pt C, .string nm, .int .i64 kd, .int .i64 now] w fun e w' => FrC w w' ∧ ((e = .returned (.tuple #[.agg ze.toArray, .bool false]) ∧ VS W w' C T m k i v ln) ∨ (∃ x q1 c1 q2 c2, e = .returned (.tuple #[.agg (evC x q1 c1 q2 c2).toArray, .bool true]) ∧ Told w' N x.s q1 c1 q2 c2 ∧ VT W w' C T m k i v ln x))) := fun w C T k i v ln h nm hnm kd now hkd => by
  have := vs_get h nm hnm kd now hkd
  rw [hN] at this
  exact this
 have HVL : Hid (∀ w C T k i v ln, VS W w C T m k i v ln → Calls Tryz.prog 20 #[pt C] w fun e w' => (∃ z : Int, e = .returned (.int .i64 z) ∧ z ≤ (m : Int)) ∧ w' = w) := fun w C T k i v ln h => vs_len h
 have HVA : Hid (∀ w C T k i ln q0 c0 x, VT W w C T m k i (.slice q0 ln c0) ln x → i ≤ 500 → ∀ q1 c1 q2 c2, Told w N x.s q1 c1 q2 c2 → ∃ q3 c3 w', (aSe #[.slice q0 ln c0, .slice (some ⟨w.heap.size, 0, none⟩) 1 1]).run Tryz.prog (w.alloc (.cells #[.string x.s.nm, .int .i64 x.s.ty, .int .i64 x.s.cl, .int .i64 x.s.tl, .slice q1 x.s.ds.length c1, .slice q2 x.s.sg.length c2, .int .i64 x.rk, .int .i64 x.se, .int .i64 x.ve, .int .i64 x.un] 44)) = .ok (.slice q3 (ln + 1) c3) w' ∧ VS W w' C T m k (i + 1) (.slice q3 (ln + 1) c3) (ln + 1)) := fun w C T k i ln q0 c0 x h hi q1 c1 q2 c2 ht => vt_app h hi (by rw [hN]; exact ht)
 have HVB : Hid (∀ w C T k i v ln, VS W w C T m k i v ln → Below N W w) := fun w C T k i v ln h => by have := h.bel; rw [hN] at this; exact this
 have HSt : Hid (∀ w1 w2 C T, Below N W w1 → RCA w1 w2 C T m 0 0 [] → VS W w2 C T m 0 0 (.slice none 0 0) 0) := fun w1 w2 C T hb hr => ⟨0, 0, [], [], RCB.of (hr.base (by rw [hN]; exact hb)), SeenAt.nil _ _, VI.nil, fun x hx => (by cases hx), Nat.le_refl _, rfl, Nat.le_refl _⟩
 have HAt : Hid (∀ w C T k i ln q0 c0 x, VT W w C T m k i (.slice q0 ln c0) ln x → ∀ j, j < ln → ∃ (g : Nat) (y : Ev) (a1 : Option Addr) (d1 : Nat) (a2 : Option Addr) (d2 : Nat), q0 = some ⟨g, 0, none⟩ ∧ SvI y.s ∧ (y.ve = x.ve → sameS y.s x.s = true) ∧ Told w N y.s a1 d1 a2 d2 ∧ (∀ i, i < 10 → w.cell? ⟨g, j * 10 + i, none⟩ = (evC y a1 d1 a2 d2)[i]?)) := fun w C T k i ln q0 c0 x h j hj => by
  have := h.at j hj
  rw [hN] at this
  exact this
 have HSm : Hid (∀ w (x z : Sv), SvI x → SvI z → ∀ q1 c1 q2 c2 q3 c3 q4 c4, SvAt w x q1 c1 q2 c2 → SvAt w z q3 c3 q4 c4 → Calls Tryz.prog 22 #[.agg (svC x q1 c1 q2 c2).toArray, .agg (svC z q3 c3 q4 c4).toArray] w fun e w' => e = .returned (.bool (sameS x z)) ∧ Below w.heap.size w w') := fun w x z hx hz q1 c1 q2 c2 q3 c3 q4 c4 h5 h6 => setSame_in x z hx.sv hz.sv q1 c1 q2 c2 q3 c3 q4 c4 w h5 h6
 rw [hn]
 have HNN : Hid (W.heap.size = N) := hN
 simp only [svC] at HVP
 simp only [evC] at HVG
 clear hat hin hsh hn hN hm hmb hp hmost
 go_enter Tryz.func5, Tryz.ntmps5
 go_wp2_with fail
 refine (HE.out _).mono ?_
 rintro e w1 ⟨rfl, hb1⟩
 have HB1 : Hid (Below N W w1) := by rw [Hid, ← HNN.out]; exact hb1
 clear hb1
 go_wp2_with fail
 refine (HPk.out _).mono ?_
 rintro e w2 ⟨rfl, rfl⟩
 go_wp2_with fail
 refine (HNw.out _).mono ?_
 rintro e w3 ⟨C, T, rfl, hr3⟩
 have HS3 := Hid.mk (HSt.out _ _ _ _ HB1.out hr3)
 clear hr3
 go_wp2_with fail
 go_loopw [8, 9] (fun sv iv wr => ∃ (i ln : Nat) (q0 : Option Addr) (c0 : Nat) (wq : World), wq = wr ∧ i ≤ n ∧ i ≤ 60 ∧ iv = .int .i64 (i : Int) ∧ sv = .slice q0 ln c0 ∧ Hid (VS W wq C T m i i (.slice q0 ln c0) ln ∧ ln ≤ c0 ∧ c0 ≤ 9223372036854775807)) (fun _ iv _ => n - (intOf iv).toNat)
 case atStart => exact ⟨0, 0, none, 0, _, rfl, Nat.zero_le _, by omega, rfl, rfl, HS3.out, Nat.le_refl _, by omega⟩
 case round =>
  obtain ⟨i, ln, q0, c0, wq, rfl, hi, hi60, rfl, rfl, HI⟩ := hrel
  by_cases hlt : i < n
  case neg =>
   have hlz : ¬ (i : Int) < (n : Int) := by omega
   have HBel : Hid (Below N W wq) := HVB.out _ _ _ _ _ _ _ HI.out.1
   go_wp2
   go_ret
   exact ⟨rfl, by rw [HNN.out]; exact HBel.out⟩
  have hlz : (i : Int) < (n : Int) := by omega
  by_cases hl60 : i < 60
  case neg =>
   have hlz6 : ¬ (i : Int) < 60 := by omega
   have HBel : Hid (Below N W wq) := HVB.out _ _ _ _ _ _ _ HI.out.1
   go_wp2
   go_ret
   exact ⟨rfl, by rw [HNN.out]; exact HBel.out⟩
  have hlz6 : (i : Int) < 60 := by omega
  have hlz0 : (0 : Int) ≤ (i : Int) := by omega
  have wi : IntKind.i64.wrap ((i : Int) + 1) = ((i + 1 : Nat) : Int) := by rw [IntKind.wrap_i64]; omega
  obtain ⟨b, off, d, qd, cd, qg, cg, rfl, hdI, hd⟩ := HD.out i hlt
  have HBq : Hid (Below N W wq) := HVB.out _ _ _ _ _ _ _ HI.out.1
  have hld := (hd.out _ HBq.out).1
  obtain ⟨D, hDz⟩ : ∃ D, wq.heap.size = D := ⟨_, rfl⟩
  obtain ⟨V, hV⟩ : ∃ V, wq.alloc (.cells #[.int .i64 d.kd, .string d.s.nm, .int .i64 d.s.ty, .int .i64 d.s.cl, .int .i64 d.s.tl, .slice qd d.s.ds.length cd, .slice qg d.s.sg.length cg, .int .i64 d.rk, .int .i64 d.se, .int .i64 d.ve, .int .i64 d.nw] 36) = V := ⟨_, rfl⟩
  have bV : Below wq.heap.size wq V := by rw [← hV]; exact (Below.refl _ _).alloc (Nat.le_refl _) _
  have gV : V.heap[D]? = some (.cells #[.int .i64 d.kd, .string d.s.nm, .int .i64 d.s.ty, .int .i64 d.s.cl, .int .i64 d.s.tl, .slice qd d.s.ds.length cd, .slice qg d.s.sg.length cg, .int .i64 d.rk, .int .i64 d.se, .int .i64 d.ve, .int .i64 d.nw] 36 (0, 0)) := by rw [← hV, ← hDz]; exact heap_alloc_new wq _
  have HBV : Hid (Below N W V) := HVB.out _ _ _ _ _ _ _ (HI.out.1.blk bV)
  have HPt := Hid.mk (HVP.out _ _ _ _ _ _ _ (HI.out.1.blk bV) (by omega) d.s hdI.out.s qd cd qg cg (hd.out _ HBV.out).2 d.rk d.se d.nw)
  have HgV := Hid.mk gV
  have HV := Hid.mk hV
  have HIc := Hid.mk HI.out.2
  clear hV bV gV
  go_upto_region 10 with fail
  (try rw [hDz])
  rw [HV.out]
  clear hDz hld
  obtain ⟨_, ⟨x0, x1, x2, x3, x4, x5⟩, x6, x7, x8, x9⟩ := dd_cells HgV.out
  go_wp2_with fail
  refine HPt.out.mono ?_
  rintro e w4 ⟨hf4, ⟨b1, e1, rfl⟩, hs4⟩
  have HG4 : Hid (w4.heap[D]? = some (.cells #[.int .i64 d.kd, .string d.s.nm, .int .i64 d.s.ty, .int .i64 d.s.cl, .int .i64 d.s.tl, .slice qd d.s.ds.length cd, .slice qg d.s.sg.length cg, .int .i64 d.rk, .int .i64 d.se, .int .i64 d.ve, .int .i64 d.nw] 36 (0, 0))) := hf4.same D _ _ _ HgV.out (by decide) (by decide) (by decide)
  have HGt := Hid.mk (HVG.out _ _ _ _ _ _ _ hs4 d.s.nm hdI.out.s.sv.nm d.s.ty d.nw hdI.out.s.ty)
  clear hf4 hs4 x0 x1 x2 x3 x4 x5 x6 x7 x8 x9
  obtain ⟨_, ⟨x0, x1, x2, x3, x4, x5⟩, x6, x7, x8, x9⟩ := dd_cells HG4.out
  go_wp2_with fail
  refine HGt.out.mono ?_
  rintro e w5 ⟨hf5, hc5⟩
  clear x0 x1 x2 x3 x4 x5 x6 x7 x8 x9 hf5
  obtain ⟨P, hP⟩ : ∃ P, w5.heap.size = P := ⟨_, rfl⟩
  rcases hc5 with ⟨rfl, hs5⟩ | ⟨x, q1, c1, q2, c2, rfl, ht5, hs5⟩
  ·obtain ⟨V5, hV5⟩ : ∃ V, w5.alloc (.cells #[.string ⟨#[]⟩, .int .i64 0, .int .i64 0, .int .i64 0, .slice none 0 0, .slice none 0 0, .int .i64 0, .int .i64 0, .int .i64 0, .int .i64 0] 44) = V := ⟨_, rfl⟩
   have b5 : Below w5.heap.size w5 V5 := by rw [← hV5]; exact (Below.refl _ _).alloc (Nat.le_refl _) _
   have HS5 := Hid.mk (hs5.blk b5)
   have HL5 := Hid.mk (HVL.out _ _ _ _ _ _ _ HS5.out)
   have HV5 := Hid.mk hV5
   clear hV5 b5 hs5
   go_upto_region 12 with fail
   (try rw [hP])
   rw [HV5.out]
   clear hP
   go_wp2_with fail
   refine HL5.out.mono ?_
   rintro e w6 ⟨⟨z, rfl, hz⟩, rfl⟩
   go_wp2_with fail
   refine (HPk.out _).mono ?_
   rintro e w7 ⟨rfl, rfl⟩
   have hz2 : ¬ z > (m : Int) := by omega
   go_wp2
   go_roundw
   case rel => exact ⟨i + 1, ln, q0, c0, _, rfl, by omega, by omega, by first | rfl | go_num, rfl, HS5.out.more, HIc.out⟩
   case measure => simp [intOf]; omega
  ·obtain ⟨V5, hV5⟩ : ∃ V, w5.alloc (.cells #[.string x.s.nm, .int .i64 x.s.ty, .int .i64 x.s.cl, .int .i64 x.s.tl, .slice q1 x.s.ds.length c1, .slice q2 x.s.sg.length c2, .int .i64 x.rk, .int .i64 x.se, .int .i64 x.ve, .int .i64 x.un] 44) = V := ⟨_, rfl⟩
   have b5 : Below w5.heap.size w5 V5 := by rw [← hV5]; exact (Below.refl _ _).alloc (Nat.le_refl _) _
   have g5 : V5.heap[P]? = some (.cells #[.string x.s.nm, .int .i64 x.s.ty, .int .i64 x.s.cl, .int .i64 x.s.tl, .slice q1 x.s.ds.length c1, .slice q2 x.s.sg.length c2, .int .i64 x.rk, .int .i64 x.se, .int .i64 x.ve, .int .i64 x.un] 44 (0, 0)) := by rw [← hV5, ← hP]; exact heap_alloc_new w5 _
   have HT5 := Hid.mk (hs5.blk b5)
   have HX5 : Hid (Told V5 N x.s q1 c1 q2 c2) := ht5.frc (FrC.below b5)
   have HL5 := Hid.mk (HVL.out _ _ _ _ _ _ _ HT5.out.vs)
   have HG5 := Hid.mk g5
   have HV5 := Hid.mk hV5
   clear hV5 b5 g5 hs5 ht5
   go_upto_region 12 with fail
   (try rw [hP])
   rw [HV5.out]
   clear hP
   go_wp2_with fail
   refine HL5.out.mono ?_
   rintro e w6 ⟨⟨z, rfl, hz⟩, rfl⟩
   go_wp2_with fail
   refine (HPk.out _).mono ?_
   rintro e w7 ⟨rfl, rfl⟩
   have hz2 : ¬ z > (m : Int) := by omega
   obtain ⟨U, hU⟩ : ∃ U, w7 = U := ⟨_, rfl⟩
   have hxI : SvI x.s := by obtain ⟨_, _, _, _, _, _, _, _, h, _⟩ := HT5.out; exact h
   have HxI := Hid.mk hxI
   have HIn : Hid (∀ j, j < ln → ∃ (g : Nat) (y : Ev) (a1 : Option Addr) (d1 : Nat) (a2 : Option Addr) (d2 : Nat), q0 = some ⟨g, 0, none⟩ ∧ Hid (SvI y.s ∧ (y.ve = x.ve → sameS y.s x.s = true)) ∧ Hid (∀ w, Below w7.heap.size w7 w → (fun w : World => (w.cell? ⟨g, j * 10, none⟩ = some (.string y.s.nm) ∧ w.cell? ⟨g, j * 10 + 1, none⟩ = some (.int .i64 y.s.ty) ∧ w.cell? ⟨g, j * 10 + 2, none⟩ = some (.int .i64 y.s.cl) ∧ w.cell? ⟨g, j * 10 + 3, none⟩ = some (.int .i64 y.s.tl) ∧ w.cell? ⟨g, j * 10 + 4, none⟩ = some (.slice a1 y.s.ds.length d1) ∧ w.cell? ⟨g, j * 10 + 5, none⟩ = some (.slice a2 y.s.sg.length d2) ∧ w.cell? ⟨g, j * 10 + 8, none⟩ = some (.int .i64 y.ve)) ∧ (w.cell? ⟨P, 0, none⟩ = some (.string x.s.nm) ∧ w.cell? ⟨P, 1, none⟩ = some (.int .i64 x.s.ty) ∧ w.cell? ⟨P, 2, none⟩ = some (.int .i64 x.s.cl) ∧ w.cell? ⟨P, 3, none⟩ = some (.int .i64 x.s.tl) ∧ w.cell? ⟨P, 4, none⟩ = some (.slice q1 x.s.ds.length c1) ∧ w.cell? ⟨P, 5, none⟩ = some (.slice q2 x.s.sg.length c2) ∧ w.cell? ⟨P, 8, none⟩ = some (.int .i64 x.ve))) w ∧ SvAt w y.s a1 d1 a2 d2)) := fun j hj => by
    obtain ⟨g, y, a1, d1, a2, d2, e, h1, h2, h3, h4⟩ := HAt.out _ _ _ _ _ _ _ _ _ HT5.out j hj
    refine ⟨g, y, a1, d1, a2, d2, e, ⟨h1, h2⟩, fun w hw => ⟨⟨?_, ?_⟩, (h3.frc (FrC.below hw)).sv⟩⟩
    ·have hc : ∀ i, i < 10 → w.cell? ⟨g, j * 10 + i, none⟩ = (evC y a1 d1 a2 d2)[i]? := fun i hi => by
      have e := h4 i hi
      exact (hw.cell (p := ⟨g, j * 10 + i, none⟩) (cell_block (e.trans (List.getElem?_eq_getElem (by simpa using hi))))).trans e
     exact ⟨hc 0 (by omega), hc 1 (by omega), hc 2 (by omega), hc 3 (by omega), hc 4 (by omega), hc 5 (by omega), hc 8 (by omega)⟩
    ·have g := (hw.block P (blk_lt HG5.out)).trans HG5.out
     refine ⟨?_, ?_, ?_, ?_, ?_, ?_, ?_⟩ <;> (rw [So.cell_blk g]; rfl)
   have HIX : Hid (∀ w, Below w7.heap.size w7 w → SvAt w x.s q1 c1 q2 c2 ∧ VT W w C T m (i + 1) i (.slice q0 ln c0) ln x ∧ Told w N x.s q1 c1 q2 c2 ∧ w.heap[P]? = some (.cells #[.string x.s.nm, .int .i64 x.s.ty, .int .i64 x.s.cl, .int .i64 x.s.tl, .slice q1 x.s.ds.length c1, .slice q2 x.s.sg.length c2, .int .i64 x.rk, .int .i64 x.se, .int .i64 x.ve, .int .i64 x.un] 44 (0, 0))) := fun w hw => ⟨(HX5.out.frc (FrC.below hw)).sv, HT5.out.blk hw, HX5.out.frc (FrC.below hw), (hw.block P (blk_lt HG5.out)).trans HG5.out⟩
   have H00 : Hid (Below w7.heap.size w7 w7) := Below.refl _ _
   have hlc : ln ≤ c0 ∧ c0 ≤ 9223372036854775807 := HIc.out
   have hln : ln ≤ 60 := by obtain ⟨_, _, _, _, _, _, _, _, _, _, _, h, h2⟩ := HT5.out; omega
   clear hU hxI
   go_wp2_with fail
   go_loopw [13] (fun kv wr => ∃ (j : Nat) (wz : World), wz = wr ∧ j ≤ ln ∧ kv = .int .i64 (j : Int) ∧ Hid (Below w7.heap.size w7 wz)) (fun kv _ => ln - (intOf kv).toNat)
   case atStart => exact ⟨0, _, rfl, Nat.zero_le _, rfl, H00.out⟩
   case round =>
    obtain ⟨j, wz, rfl, hj, rfl, HJ⟩ := hrel
    by_cases hjl : j < ln
    ·have hjz : (j : Int) < (ln : Int) := by omega
     have hjz0 : (0 : Int) ≤ (j : Int) := by omega
     have wj : IntKind.i64.wrap ((j : Int) + 1) = ((j + 1 : Nat) : Int) := by rw [IntKind.wrap_i64]; omega
     obtain ⟨g, y, a1, d1, a2, d2, rfl, hy, hyc⟩ := HIn.out j hjl
     have HD0 : Hid (Below w7.heap.size w7 wz.drew) := HJ.out.drew
     have HQ1 := Hid.mk (HSm.out wz.drew y.s x.s hy.out.1 HxI.out a1 d1 a2 d2 q1 c1 q2 c2 (hyc.out _ HD0.out).2 (HIX.out _ HD0.out).1)
     simp only [svC] at HQ1
     have hS0 := (hyc.out _ HD0.out).1
     obtain ⟨r, hr⟩ : ∃ r, sameS y.s x.s = r := ⟨_, rfl⟩
     rw [hr] at HQ1
     have HRr : Hid (y.ve = x.ve → r = true) := fun e => by rw [← hr]; exact hy.out.2 e
     clear hr
     go_upto_region 18 with fail
     refine wp_region_held_drew (S := (fun w : World => (w.cell? ⟨g, j * 10, none⟩ = some (.string y.s.nm) ∧ w.cell? ⟨g, j * 10 + 1, none⟩ = some (.int .i64 y.s.ty) ∧ w.cell? ⟨g, j * 10 + 2, none⟩ = some (.int .i64 y.s.cl) ∧ w.cell? ⟨g, j * 10 + 3, none⟩ = some (.int .i64 y.s.tl) ∧ w.cell? ⟨g, j * 10 + 4, none⟩ = some (.slice a1 y.s.ds.length d1) ∧ w.cell? ⟨g, j * 10 + 5, none⟩ = some (.slice a2 y.s.sg.length d2) ∧ w.cell? ⟨g, j * 10 + 8, none⟩ = some (.int .i64 y.ve)) ∧ (w.cell? ⟨P, 0, none⟩ = some (.string x.s.nm) ∧ w.cell? ⟨P, 1, none⟩ = some (.int .i64 x.s.ty) ∧ w.cell? ⟨P, 2, none⟩ = some (.int .i64 x.s.cl) ∧ w.cell? ⟨P, 3, none⟩ = some (.int .i64 x.s.tl) ∧ w.cell? ⟨P, 4, none⟩ = some (.slice q1 x.s.ds.length c1) ∧ w.cell? ⟨P, 5, none⟩ = some (.slice q2 x.s.sg.length c2) ∧ w.cell? ⟨P, 8, none⟩ = some (.int .i64 x.ve)))) (by kernel_rfl) hS0 (fun hHeld => ?_)
     clear hS0
     by_cases hve : y.ve = x.ve
     ·have hrt := HRr.out hve
      subst hrt
      have e0 : (y.ve == x.ve) = true := by simpa using hve
      clear hve
      refine wU (i := 0) (v := ?va_0) rfl ?ya_0 (by assumption) ?_
      case ya_0 => (intro w hSw; (try dsimp only at hSw); go_simp; try with_reducible rfl)
      refine wU (i := 1) (v := ?va_1) rfl ?ya_1 (by assumption) ?_
      case ya_1 => (intro w hSw; (try dsimp only at hSw); go_simp; try with_reducible rfl)
      refine wU (i := 2) (v := ?va_2) rfl ?ya_2 (by assumption) ?_
      case ya_2 => (intro w hSw; (try dsimp only at hSw); go_simp; try with_reducible rfl)
      refine wU (i := 3) (v := ?va_3) rfl ?ya_3 (by assumption) ?_
      case ya_3 => (intro w hSw; (try dsimp only at hSw); go_simp; try with_reducible rfl)
      refine wU (i := 4) (v := ?va_4) rfl ?ya_4 (by assumption) ?_
      case ya_4 => (intro w hSw; (try dsimp only at hSw); go_simp; try with_reducible rfl)
      refine wU (i := 5) (v := ?va_5) rfl ?ya_5 (by assumption) ?_
      case ya_5 => (intro w hSw; (try dsimp only at hSw); go_simp; try with_reducible rfl)
      refine wU (i := 6) (v := ?va_6) rfl ?ya_6 (by assumption) ?_
      case ya_6 => (intro w hSw; (try dsimp only at hSw); go_simp; try with_reducible rfl)
      try simp only [Act.put, List.getElem_toArray, List.getElem_cons_succ, List.getElem_cons_zero, List.setIfInBounds_toArray, List.set_cons_zero, List.set_cons_succ]
      refine wpAnyH_take (i := 7) (v := .bool true) rfl (by kernel_rfl) (by kernel_rfl) (by kernel_rfl) (fun _ _ _ h => h) (Or.inl ⟨by kernel_rfl, ?ya_7⟩) (by assumption) ?_
      case ya_7 => (intro w hSw; (try dsimp only at hSw); go_simp; try with_reducible rfl)
      refine wpAnyH_take (i := 8) (v := .bool true) rfl (by kernel_rfl) (by kernel_rfl) (by kernel_rfl) (fun _ _ _ h => h) (Or.inl ⟨by kernel_rfl, ?ya_8⟩) (by assumption) ?_
      case ya_8 => (intro w hSw; (try dsimp only at hSw); go_simp; try with_reducible rfl)
      try simp only [Act.put, List.getElem_toArray, List.getElem_cons_succ, List.getElem_cons_zero, List.setIfInBounds_toArray, List.set_cons_zero, List.set_cons_succ]
      refine wU (i := 9) (v := ?vb_9) rfl ?yb_9 (by assumption) ?_
      case yb_9 => (intro w hSw; (try dsimp only at hSw); go_simp; try with_reducible rfl)
      refine wU (i := 10) (v := ?vb_10) rfl ?yb_10 (by assumption) ?_
      case yb_10 => (intro w hSw; (try dsimp only at hSw); go_simp; try with_reducible rfl)
      refine wU (i := 11) (v := ?vb_11) rfl ?yb_11 (by assumption) ?_
      case yb_11 => (intro w hSw; (try dsimp only at hSw); go_simp; try with_reducible rfl)
      refine wU (i := 12) (v := ?vb_12) rfl ?yb_12 (by assumption) ?_
      case yb_12 => (intro w hSw; (try dsimp only at hSw); go_simp; try with_reducible rfl)
      refine wU (i := 13) (v := ?vb_13) rfl ?yb_13 (by assumption) ?_
      case yb_13 => (intro w hSw; (try dsimp only at hSw); go_simp; try with_reducible rfl)
      refine wU (i := 14) (v := ?vb_14) rfl ?yb_14 (by assumption) ?_
      case yb_14 => (intro w hSw; (try dsimp only at hSw); go_simp; try with_reducible rfl)
      refine wU (i := 15) (v := ?vb_15) rfl ?yb_15 (by assumption) ?_
      case yb_15 => (intro w hSw; (try dsimp only at hSw); go_simp; try with_reducible rfl)
      try simp only [Act.put, List.getElem_toArray, List.getElem_cons_succ, List.getElem_cons_zero, List.setIfInBounds_toArray, List.set_cons_zero, List.set_cons_succ]
      refine wpAnyH_ready (rs := [16]) (by kernel_rfl) (by simp) ?_
      refine AllReadyH.cons rfl (fun K hK => ?_) AllReadyH.nil
      go_simp
      go_at_call 22
      refine HQ1.out.mono ?_
      rintro e w8 ⟨rfl, hb8⟩
      have HD8 : Hid (Below w7.heap.size w7 w8) := HD0.out.trans (hb8.mono HD0.out.size)
      clear hb8
      refine hK.out _ _ (hyc.out _ HD8.out).1 (fun hHeld => ?_)
      clear hK K
      try simp only [Act.put, List.getElem_toArray, List.getElem_cons_succ, List.getElem_cons_zero, List.setIfInBounds_toArray, List.set_cons_zero, List.set_cons_succ]
      refine wpAnyH_take (i := 17) (v := .bool false) rfl (by kernel_rfl) (by kernel_rfl) (by kernel_rfl) (fun _ _ _ h => h) (Or.inl ⟨by kernel_rfl, ?yc_17⟩) (by assumption) ?_
      case yc_17 => (intro w hSw; (try dsimp only at hSw); go_simp; try with_reducible rfl)
      try simp only [Act.put, List.getElem_toArray, List.getElem_cons_succ, List.getElem_cons_zero, List.setIfInBounds_toArray, List.set_cons_zero, List.set_cons_succ]
      refine wpAnyH_take (i := 18) (v := .bool false) rfl (by kernel_rfl) (by kernel_rfl) (by kernel_rfl) (fun _ _ _ h => h) (Or.inl ⟨by kernel_rfl, ?yd_18⟩) (by assumption) ?_
      case yd_18 => (intro w hSw; (try dsimp only at hSw); go_simp; try with_reducible rfl)
      try simp only [Act.put, List.getElem_toArray, List.getElem_cons_succ, List.getElem_cons_zero, List.setIfInBounds_toArray, List.set_cons_zero, List.set_cons_succ]
      refine wpAnyH_done (by kernel_rfl) ?_ _
      clear hHeld e0
      go_wp2
      go_roundw
      case rel => exact ⟨j + 1, _, rfl, by omega, by first | rfl | go_num, HD8.out⟩
      case measure => simp [intOf]; omega
     ·have e0 : (y.ve == x.ve) = false := by simpa using hve
      clear hve
      refine wU (i := 0) (v := ?ve_0) rfl ?ye_0 (by assumption) ?_
      case ye_0 => (intro w hSw; (try dsimp only at hSw); go_simp; try with_reducible rfl)
      refine wU (i := 1) (v := ?ve_1) rfl ?ye_1 (by assumption) ?_
      case ye_1 => (intro w hSw; (try dsimp only at hSw); go_simp; try with_reducible rfl)
      refine wU (i := 2) (v := ?ve_2) rfl ?ye_2 (by assumption) ?_
      case ye_2 => (intro w hSw; (try dsimp only at hSw); go_simp; try with_reducible rfl)
      refine wU (i := 3) (v := ?ve_3) rfl ?ye_3 (by assumption) ?_
      case ye_3 => (intro w hSw; (try dsimp only at hSw); go_simp; try with_reducible rfl)
      refine wU (i := 4) (v := ?ve_4) rfl ?ye_4 (by assumption) ?_
      case ye_4 => (intro w hSw; (try dsimp only at hSw); go_simp; try with_reducible rfl)
      refine wU (i := 5) (v := ?ve_5) rfl ?ye_5 (by assumption) ?_
      case ye_5 => (intro w hSw; (try dsimp only at hSw); go_simp; try with_reducible rfl)
      refine wU (i := 6) (v := ?ve_6) rfl ?ye_6 (by assumption) ?_
      case ye_6 => (intro w hSw; (try dsimp only at hSw); go_simp; try with_reducible rfl)
      try simp only [Act.put, List.getElem_toArray, List.getElem_cons_succ, List.getElem_cons_zero, List.setIfInBounds_toArray, List.set_cons_zero, List.set_cons_succ]
      refine wpAnyH_take (i := 7) (v := .bool false) rfl (by kernel_rfl) (by kernel_rfl) (by kernel_rfl) (fun _ _ _ h => h) (Or.inl ⟨by kernel_rfl, ?ye_7⟩) (by assumption) ?_
      case ye_7 => (intro w hSw; (try dsimp only at hSw); go_simp; try with_reducible rfl)
      refine wpAnyH_take (i := 8) (v := .bool false) rfl (by kernel_rfl) (by kernel_rfl) (by kernel_rfl) (fun _ _ _ h => h) (Or.inl ⟨by kernel_rfl, ?ye_8⟩) (by assumption) ?_
      case ye_8 => (intro w hSw; (try dsimp only at hSw); go_simp; try with_reducible rfl)
      try simp only [Act.put, List.getElem_toArray, List.getElem_cons_succ, List.getElem_cons_zero, List.setIfInBounds_toArray, List.set_cons_zero, List.set_cons_succ]
      refine wT (i := 9) (v := undef) rfl (Or.inr ⟨by kernel_rfl, rfl⟩) (by assumption) ?_
      refine wT (i := 10) (v := undef) rfl (Or.inr ⟨by kernel_rfl, rfl⟩) (by assumption) ?_
      refine wT (i := 11) (v := undef) rfl (Or.inr ⟨by kernel_rfl, rfl⟩) (by assumption) ?_
      refine wT (i := 12) (v := undef) rfl (Or.inr ⟨by kernel_rfl, rfl⟩) (by assumption) ?_
      refine wT (i := 13) (v := undef) rfl (Or.inr ⟨by kernel_rfl, rfl⟩) (by assumption) ?_
      refine wT (i := 14) (v := undef) rfl (Or.inr ⟨by kernel_rfl, rfl⟩) (by assumption) ?_
      refine wT (i := 15) (v := undef) rfl (Or.inr ⟨by kernel_rfl, rfl⟩) (by assumption) ?_
      refine wT (i := 16) (v := undef) rfl (Or.inr ⟨by kernel_rfl, rfl⟩) (by assumption) ?_
      refine wT (i := 17) (v := undef) rfl (Or.inr ⟨by kernel_rfl, rfl⟩) (by assumption) ?_
      try simp only [Act.put, List.getElem_toArray, List.getElem_cons_succ, List.getElem_cons_zero, List.setIfInBounds_toArray, List.set_cons_zero, List.set_cons_succ]
      refine wpAnyH_take (i := 18) (v := .bool false) rfl (by kernel_rfl) (by kernel_rfl) (by kernel_rfl) (fun _ _ _ h => h) (Or.inl ⟨by kernel_rfl, ?yf_18⟩) (by assumption) ?_
      case yf_18 => (intro w hSw; (try dsimp only at hSw); go_simp; try with_reducible rfl)
      try simp only [Act.put, List.getElem_toArray, List.getElem_cons_succ, List.getElem_cons_zero, List.setIfInBounds_toArray, List.set_cons_zero, List.set_cons_succ]
      refine wpAnyH_done (by kernel_rfl) ?_ _
      clear hHeld e0
      go_wp2
      go_roundw
      case rel => exact ⟨j + 1, _, rfl, by omega, by first | rfl | go_num, HD0.out⟩
      case measure => simp [intOf]; omega
    ·obtain rfl : j = ln := by omega
     have hjz : ¬ (j : Int) < (j : Int) := by omega
     obtain ⟨hxa, hxt, hxo, hxg⟩ := HIX.out _ HJ.out
     obtain ⟨q3, c3, w9, hrun, hv9⟩ := HVA.out _ _ _ _ _ _ _ _ _ hxt (by omega) _ _ _ _ hxo
     have c0 : wz.cell? ⟨P, 0, none⟩ = some (.string x.s.nm) := by rw [So.cell_blk hxg]; rfl
     have c1' : wz.cell? ⟨P, 1, none⟩ = some (.int .i64 x.s.ty) := by rw [So.cell_blk hxg]; rfl
     have c2' : wz.cell? ⟨P, 2, none⟩ = some (.int .i64 x.s.cl) := by rw [So.cell_blk hxg]; rfl
     have c3' : wz.cell? ⟨P, 3, none⟩ = some (.int .i64 x.s.tl) := by rw [So.cell_blk hxg]; rfl
     have c4' : wz.cell? ⟨P, 4, none⟩ = some (.slice q1 x.s.ds.length c1) := by rw [So.cell_blk hxg]; rfl
     have c5' : wz.cell? ⟨P, 5, none⟩ = some (.slice q2 x.s.sg.length c2) := by rw [So.cell_blk hxg]; rfl
     have c6' : wz.cell? ⟨P, 6, none⟩ = some (.int .i64 x.rk) := by rw [So.cell_blk hxg]; rfl
     have c7' : wz.cell? ⟨P, 7, none⟩ = some (.int .i64 x.se) := by rw [So.cell_blk hxg]; rfl
     have c8' : wz.cell? ⟨P, 8, none⟩ = some (.int .i64 x.ve) := by rw [So.cell_blk hxg]; rfl
     have c9' : wz.cell? ⟨P, 9, none⟩ = some (.int .i64 x.un) := by rw [So.cell_blk hxg]; rfl
     have HV9 : Hid (VS W w9 C T m (i + 1) (i + 1) (.slice q3 (j + 1) c3) (j + 1) ∧ j + 1 ≤ c3 ∧ c3 ≤ 9223372036854775807) := by
      refine ⟨hv9, ?_⟩
      obtain ⟨_, _, _, L, _, hsn, _, _, _, hll, _⟩ := hv9
      obtain ⟨_, _, _, _, ho⟩ := hsn.ex
      rw [hll] at ho
      have := own_cap ho
      unfold maxLen at this
      omega
     clear hxa hxt hxo hxg hv9
     go_wp2
     go_roundw
     case rel => exact ⟨i + 1, j + 1, q3, c3, _, rfl, by omega, by omega, by first | rfl | go_num, rfl, HV9.out⟩
     case measure => simp [intOf]; omega
end
end Go.Proofs.YthionnpohcgoaaaGreatDoor.Rc
