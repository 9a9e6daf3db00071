/- Texts of this proof, joined: KSwapsW. -/
import Derived.Test.YtlcjagkfeakinaaGreatDoorJ12
import Derived.Lib.ConvBytes
import Derived.OpenShut
/- KeysSwaps: the walk. -/
namespace Go.Proofs.YtlcjagkfeakinaaGreatDoor
set_option linter.unusedVariables false
open Go.RowKit
open G (cells_at cells_put)

set_option maxRecDepth 100000 in
set_option maxHeartbeats 1000000 in
theorem swaps_no (d : ByteArray) (hd : d.size ≤ maxLen) (i j : Int) (ow : ByteArray) (h : ¬ (8 ≤ d.size ∧ d.size ≤ 2000)) (W : World) (hG : G.Rk W) :
    Calls Tryz.prog 8 #[.string d, .int .i64 i, .int .i64 j, .string ow] W fun e w' => e = .returned (.bool true) ∧ Below W.heap.size W w' := by
  have HX := Hid.mk kexamples_in
  have G0 := Hid.mk hG
  clear hG
  unfold maxLen at hd
  by_cases h5 : 5 ≤ d.size ∧ d.size ≤ 2000
  · have HT := Hid.mk (tag_ok d h5.1 h5.2)
    have w1 : IntKind.i64.wrap ((d.size : Int) - 4) = (d.size : Int) - 4 := by rw [IntKind.wrap_i64]; omega
    have w2 : ((d.size : Int) - 4).tdiv 2 < 2 := by rw [Int.tdiv_eq_ediv_of_nonneg (by omega)]; omega
    have w3 : IntKind.i64.wrap (((d.size : Int) - 4).tdiv 2) = ((d.size : Int) - 4).tdiv 2 := by rw [IntKind.wrap_i64, Int.tdiv_eq_ediv_of_nonneg (by omega)]; omega
    go_enter Tryz.func8, Tryz.ntmps8
    go_wp2_with fail
    refine (HX.out _ G0.out).mono ?_
    rintro e w1 ⟨rfl, hb1⟩
    go_wp2_with fail
    refine (HT.out _).mono ?_
    rintro e w2 ⟨rfl, hb2⟩
    go_wp2
    go_ret
    exact ⟨rfl, bth hb1 hb2 hb1.size⟩
  · have HT := Hid.mk (tag_no d (by unfold maxLen; omega) h5)
    have w1 : IntKind.i64.wrap ((d.size : Int) - 4) = (d.size : Int) - 4 := by rw [IntKind.wrap_i64]; omega
    go_enter Tryz.func8, Tryz.ntmps8
    go_wp2_with fail
    refine (HX.out _ G0.out).mono ?_
    rintro e w1 ⟨rfl, hb1⟩
    go_wp2_with fail
    refine (HT.out _).mono ?_
    rintro e w2 ⟨rfl, hb2⟩
    go_wp2
    go_ret
    exact ⟨rfl, bth hb1 hb2 hb1.size⟩
/-! main -/
theorem bytesAt_conv (w : World) (s : ByteArray) : BytesAt (Lib.bytesWorld w 5 s) w.heap.size s.data.toList := by
  intro j hj
  have hn := Lib.bytesWorld_at_new w 5 s
  have hz : s.size ≤ (Lib.bytesCells w 5 s).size := by simp [Lib.bytesCells]
  have hc : (Lib.bytesCells w 5 s).toList[j]? = some (.int .u8 (s.data.toList[j].toNat : Int)) := by
    simp only [Lib.bytesCells, Array.toList_append, Array.toList_map]
    rw [List.getElem?_append_left (by simpa using hj), List.getElem?_map, List.getElem?_eq_getElem hj]
    rfl
  constructor
  · simp only [World.cell?, hn]
    rw [← Array.getElem?_toList]
    simpa using hc
  · simp only [World.frozen?, hn, Bool.and_eq_false_iff, decide_eq_false_iff_not]
    rw [size_list] at hj
    omega
theorem bytesWorld_below (w : World) (s : ByteArray) : Below w.heap.size w (Lib.bytesWorld w 5 s) :=
  ⟨rfl, rfl, rfl, by simp [Lib.bytesWorld, World.freeze, World.alloc, World.drew, -World.alloc_eq, -World.drew_eq], fun k hk => Lib.bytesWorld_at_old w 5 s k hk⟩
theorem bytesAt_below {W W' : World} {g : Nat} {l : List UInt8} (h : BytesAt W g l) (hl : 0 < l.length) (k : Below W.heap.size W W') (hg : g < W.heap.size) : BytesAt W' g l := by
  intro j hj
  obtain ⟨h1, h2⟩ := h j hj
  refine ⟨(k.cell (p := ⟨g, j, none⟩) hg).trans h1, ?_⟩
  have hb := k.block g hg
  simp only [World.frozen?] at h2 ⊢
  rw [hb]
  exact h2
theorem bytesAt_back {W : World} {g cap n : Nat} {l : List UInt8} (h : BytesAt W g l) (hn : l.length = n) : (convert 55 9 (.slice (some ⟨g, 0, none⟩) n cap)).run Tryz.prog W = .ok (.string ⟨l.toArray⟩) W := by
  subst hn
  refine run_convert_bytes_back (P := Tryz.prog) W 55 9 5 ⟨g, 0, none⟩ cap l Tryz.underlying55 Tryz.underlying5 Tryz.underlying9 (fun j hj => ?_)
  rw [add_at]
  exact (h j hj).1
theorem ds4' {V : World} {b : Nat} {t a k : Int} {s : ByteArray} (h : V.heap[b]? = some (.cells (dsV t a k s) 23 (0, 0))) :
    V.cell? ⟨b, 0, none⟩ = some (.int .i64 t) ∧ V.cell? ⟨b, 1, none⟩ = some (.int .i64 a) ∧ V.cell? ⟨b, 2, none⟩ = some (.int .i64 k) ∧ V.cell? ⟨b, 3, none⟩ = some (.string s) :=
  ⟨(cells_at (j := 0) h rfl).1, (cells_at (j := 1) h rfl).1, (cells_at (j := 2) h rfl).1, (cells_at (j := 3) h rfl).1⟩
/-- a place of a pair: behind the fourth byte. -/
structure Plc (d : ByteArray) (M : Nat) (q a : Nat) : Prop where
  ha : a = 4 + 2 * q
  lt : a + 1 < d.size
  ev : a % 2 = 0
theorem kidx (s : ByteArray) (k : Nat) (h : k < s.size) (w : World) : (Instr.index 9 (.string s) (.int .i64 (k : Int))).run Tryz.prog w = .ok (.int .u8 ((s.data.toList[k]?.getD 0).toNat : Int)) w := by
  rw [N.idx_at s k h w, List.getElem?_eq_getElem (by rw [size_list]; exact h)]
  rfl
/-- the four stores. -/
theorem swp_at {V : World} {g : Nat} {l : List UInt8} (h : BytesAt V g l) (a b : Nat) (x0 x1 x2 x3 : UInt8) {a' b' : Nat} (ha : a + 1 = a') (hb : b + 1 = b') (e0 : l[b]?.getD 0 = x0) (e1 : l[b']?.getD 0 = x1) (e2 : l[a]?.getD 0 = x2) (e3 : l[a']?.getD 0 = x3) :
    BytesAt ((((V.setCell ⟨g, a, none⟩ (.int .u8 (x0.toNat : Int))).setCell ⟨g, a', none⟩ (.int .u8 (x1.toNat : Int))).setCell ⟨g, b, none⟩ (.int .u8 (x2.toNat : Int))).setCell ⟨g, b', none⟩ (.int .u8 (x3.toNat : Int))) g (swpB l a b) := by
  subst e0 e1 e2 e3 ha hb
  exact (((h.set a _).set (a + 1) _).set b _).set (b + 1) _
set_option maxRecDepth 100000 in
set_option maxHeartbeats 2000000 in
theorem swaps_pp (d ow C : ByteArray) (i j : Int) (M I J a b a' b' : Nat) (x0 x1 x2 x3 : UInt8) (t a1 a2 k1 k2 E T : Int) (s1 s2 : ByteArray) (hd : d.size ≤ 2000) (h8 : 8 ≤ d.size) (hM : ((d.size : Int) - 4).tdiv 2 = (M : Nat)) (hM2 : 2 ≤ M) (hMl : M ≤ 2000)
    (ni : ¬ i < 0) (mi : i.tmod (M : Int) = (I : Nat)) (nj : ¬ j < 0) (mj : j.tmod (M : Int) = (J : Nat)) (hI : I < 2000) (hJ : J < 2000) (ha : 4 + 2 * I = a) (hb : 4 + 2 * J = b) (ha' : a + 1 = a') (hb' : b + 1 = b') (la : a' < d.size) (lb : b' < d.size)
    (e0 : Hid (d.data.toList[b]?.getD 0 = x0)) (e1 : Hid (d.data.toList[b']?.getD 0 = x1)) (e2 : Hid (d.data.toList[a]?.getD 0 = x2)) (e3 : Hid (d.data.toList[a']?.getD 0 = x3)) (hC : Hid (C = ⟨(swpB d.data.toList a b).toArray⟩))
    (hq : ¬ C.toList = d.toList ∨ (C.toList = d.toList ∧ a1 = a2 ∧ k1 = k2 ∧ s1 = s2))
    (HT : Hid (∀ W, Calls Tryz.prog 10 #[.string d] W fun e w' => e = .returned (.tuple #[.int .i64 t, .int .i64 0]) ∧ Below W.heap.size W w'))
    (HU : Hid (∀ W, Calls Tryz.prog 10 #[.string C] W fun e w' => e = .returned (.tuple #[.int .i64 t, .int .i64 0]) ∧ Below W.heap.size W w'))
    (HP : Hid (∀ W, G.Rk W → Calls Tryz.prog 14 #[.string ow, .string d, .int .i64 2] W fun e w' => e = .returned (.tuple #[.agg (dsV T a1 k1 s1), .int .i64 E]) ∧ Below W.heap.size W w'))
    (HQ : Hid (∀ W, G.Rk W → Calls Tryz.prog 14 #[.string ow, .string C, .int .i64 2] W fun e w' => e = .returned (.tuple #[.agg (dsV T a2 k2 s2), .int .i64 E]) ∧ Below W.heap.size W w'))
    (W : World) (hG : Hid (G.Rk W)) :
    Calls Tryz.prog 8 #[.string d, .int .i64 i, .int .i64 j, .string ow] W fun e w' => e = .returned (.bool true) ∧ Below W.heap.size W w' := by
  have HX := Hid.mk kexamples_in
  have w1 : IntKind.i64.wrap ((d.size : Int) - 4) = (d.size : Int) - 4 := by rw [IntKind.wrap_i64]; omega
  have w3 : IntKind.i64.wrap (M : Int) = (M : Int) := by rw [IntKind.wrap_i64]; omega
  have w4 : ¬ ((M : Int) < 2) := by omega
  have w5 : ((M : Int) == 0) = false := by rw [beq_eq_false_iff_ne]; omega
  have w5' : ¬ ((M : Int) = 0) := by omega
  have wi : IntKind.i64.wrap (I : Int) = (I : Int) := by rw [IntKind.wrap_i64]; omega
  have wj : IntKind.i64.wrap (J : Int) = (J : Int) := by rw [IntKind.wrap_i64]; omega
  have wi2 : IntKind.i64.wrap (2 * (I : Int)) = 2 * (I : Int) := by rw [IntKind.wrap_i64]; omega
  have wj2 : IntKind.i64.wrap (2 * (J : Int)) = 2 * (J : Int) := by rw [IntKind.wrap_i64]; omega
  have wi4 : IntKind.i64.wrap (4 + 2 * (I : Int)) = (a : Int) := by rw [IntKind.wrap_i64]; omega
  have wj4 : IntKind.i64.wrap (4 + 2 * (J : Int)) = (b : Int) := by rw [IntKind.wrap_i64]; omega
  have wa : IntKind.i64.wrap ((a : Int) + 1) = (a' : Int) := by rw [IntKind.wrap_i64]; omega
  have wb : IntKind.i64.wrap ((b : Int) + 1) = (b' : Int) := by rw [IntKind.wrap_i64]; omega
  have ib : ∀ w, (Instr.index 9 (.string d) (.int .i64 (b : Int))).run Tryz.prog w = .ok (.int .u8 (x0.toNat : Int)) w := fun w => by rw [kidx d b (by omega) w, e0.out]
  have ib1 : ∀ w, (Instr.index 9 (.string d) (.int .i64 (b' : Int))).run Tryz.prog w = .ok (.int .u8 (x1.toNat : Int)) w := fun w => by rw [kidx d b' (by omega) w, e1.out]
  have ia : ∀ w, (Instr.index 9 (.string d) (.int .i64 (a : Int))).run Tryz.prog w = .ok (.int .u8 (x2.toNat : Int)) w := fun w => by rw [kidx d a (by omega) w, e2.out]
  have ia1 : ∀ w, (Instr.index 9 (.string d) (.int .i64 (a' : Int))).run Tryz.prog w = .ok (.int .u8 (x3.toNat : Int)) w := fun w => by rw [kidx d a' (by omega) w, e3.out]
  have hcv := fun W : World => Lib.run_convert_string_bytes (P := Tryz.prog) W 9 55 5 d Tryz.underlying9 Tryz.underlying55 Tryz.underlying5
  have hda : (a : Int) < (d.size : Int) := by omega
  have hdb : (b : Int) < (d.size : Int) := by omega
  have hda1 : (a' : Int) < (d.size : Int) := by omega
  have hdb1 : (b' : Int) < (d.size : Int) := by omega
  have LA := Hid.mk la
  have LB := Hid.mk lb
  have HD := Hid.mk hd
  have H8 := Hid.mk h8
  have HA' := Hid.mk ha'
  have HB' := Hid.mk hb'
  clear hd h8 hM2 hMl hI hJ ha hb la lb ha' hb'
  go_enter Tryz.func8, Tryz.ntmps8
  go_wp2_with fail
  refine (HX.out _ hG.out).mono ?_
  rintro e z1 ⟨rfl, hb1⟩
  go_wp2_with fail
  refine (HT.out _).mono ?_
  rintro e z2 ⟨rfl, hb2⟩
  have B2 := Hid.mk (bth hb1 hb2 hb1.size)
  clear hb1 hb2
  have V0 := Hid.mk (bytesAt_conv z2 d)
  have B3 := Hid.mk (bth B2.out (bytesWorld_below z2 d) B2.out.size)
  have hcz := hcv z2
  have hlt : z2.heap.size < (Lib.bytesWorld z2 5 d).heap.size := Array.getElem?_eq_some_iff.1 (Lib.bytesWorld_at_new z2 5 d) |>.1
  generalize hV : Lib.bytesWorld z2 5 d = V at V0 B3 hcz hlt
  clear hcv hV
  have LT := Hid.mk hlt
  clear hlt
  have VS := Hid.mk (swp_at V0.out a b x0 x1 x2 x3 HA'.out HB'.out e0.out e1.out e2.out e3.out)
  obtain ⟨c0, f0⟩ := V0.out a (by rw [size_list]; have := LA.out; have := HA'.out; omega)
  have f1 := (V0.out a' (by rw [size_list]; exact LA.out)).2
  have f2 := (V0.out b (by rw [size_list]; have := LB.out; have := HB'.out; omega)).2
  have f3 := (V0.out b' (by rw [size_list]; exact LB.out)).2
  have c1 := ((V0.out.set a x0) a' (by rw [List.length_set, size_list]; exact LA.out)).1
  have c2 := (((V0.out.set a x0).set a' x1) b (by rw [List.length_set, List.length_set, size_list]; have := LB.out; have := HB'.out; omega)).1
  have c3 := ((((V0.out.set a x0).set a' x1).set b x2) b' (by rw [List.length_set, List.length_set, List.length_set, size_list]; exact LB.out)).1
  have SL := Hid.mk (show (swpB d.data.toList a b).length = d.size by rw [swpB_length, size_list])
  have B4 := Hid.mk ((((B3.out.setCell (p := ⟨z2.heap.size, a, none⟩) B2.out.size (.int .u8 (x0.toNat : Int))).setCell (p := ⟨z2.heap.size, a', none⟩) B2.out.size (.int .u8 (x1.toNat : Int))).setCell (p := ⟨z2.heap.size, b, none⟩) B2.out.size (.int .u8 (x2.toNat : Int))).setCell (p := ⟨z2.heap.size, b', none⟩) B2.out.size (.int .u8 (x3.toNat : Int)))
  have hbk := bytesAt_back (cap := grownCap z2 d.size 0 5) VS.out SL.out
  rw [← hC.out] at hbk
  go_wp2_with fail
  have LS : 0 < (swpB d.data.toList a b).length := by rw [SL.out]; have := H8.out; omega
  have LX := Hid.mk LS
  clear LS
  refine (HU.out _).mono ?_
  rintro e z3 ⟨rfl, hb3⟩
  have B5 := Hid.mk (bth B4.out hb3 B4.out.size)
  have V5 := Hid.mk (bytesAt_below VS.out LX.out hb3 (by simp; exact LT.out))
  have G5 := Hid.mk (show z2.heap.size < z3.heap.size from Nat.lt_of_lt_of_le LT.out (Nat.le_trans (by simp) hb3.size))
  clear hb3 hbk c0 c1 c2 c3 f0 f1 f2 f3 hcz ia ia1 ib ib1
  go_wp2_with fail
  refine (HP.out _ (hG.out.below B5.out)).mono ?_
  rintro e z4 ⟨rfl, hb4⟩
  have B6 := Hid.mk (bth B5.out hb4 B5.out.size)
  have V6 := Hid.mk (bytesAt_below V5.out LX.out hb4 G5.out)
  have G6 := Hid.mk (Nat.lt_of_lt_of_le G5.out hb4.size)
  have hA := (Below.refl z4.heap.size z4).alloc (Nat.le_refl _) (.cells (dsV T a1 k1 s1) 23)
  have V7 := Hid.mk (bytesAt_below V6.out LX.out hA G6.out)
  have B7 := Hid.mk (bth B6.out hA B6.out.size)
  have G7 := Hid.mk (Nat.lt_of_lt_of_le G6.out hA.size)
  have hbk := bytesAt_back (cap := grownCap z2 d.size 0 5) V7.out SL.out
  rw [← hC.out] at hbk
  clear hb4 hA
  go_wp2_with fail
  refine (HQ.out _ (hG.out.below B7.out)).mono ?_
  rintro e z5 ⟨rfl, hb5⟩
  have B8 := Hid.mk (bth B7.out hb5 B7.out.size)
  have V8 := Hid.mk (bytesAt_below V7.out LX.out hb5 G7.out)
  have G8 := Hid.mk (Nat.lt_of_lt_of_le G7.out hb5.size)
  have hx := (hb5.block _ (by simp)).trans (heap_new z4 (.cells (dsV T a1 k1 s1) 23))
  have hxl := box_lt hx
  obtain ⟨p0, p1, p2, p3⟩ := ds4' hx
  have hA := (Below.refl z5.heap.size z5).alloc (Nat.le_refl _) (.cells (dsV T a2 k2 s2) 23)
  have V9 := Hid.mk (bytesAt_below V8.out LX.out hA G8.out)
  have B9 := Hid.mk (bth B8.out hA B8.out.size)
  have hbk2 := bytesAt_back (cap := grownCap z2 d.size 0 5) V9.out SL.out
  rw [← hC.out] at hbk2
  have hne : z4.heap.size ≠ z5.heap.size := by omega
  clear hb5 hA hbk hx
  rcases hq with hq | ⟨hq, rfl, rfl, rfl⟩
  · go_wp2
    go_ret
    exact ⟨rfl, B9.out⟩
  · go_wp2
    go_ret
    exact ⟨rfl, B9.out⟩
set_option maxRecDepth 100000 in
set_option maxHeartbeats 2000000 in
theorem swaps_np (d ow C : ByteArray) (i j : Int) (M I J a b a' b' : Nat) (x0 x1 x2 x3 : UInt8) (t a1 a2 k1 k2 E T : Int) (s1 s2 : ByteArray) (hd : d.size ≤ 2000) (h8 : 8 ≤ d.size) (hM : ((d.size : Int) - 4).tdiv 2 = (M : Nat)) (hM2 : 2 ≤ M) (hMl : M ≤ 2000)
    (ni : i < 0) (wi1 : IntKind.i64.wrap (i + 1) = i + 1) (wi2 : IntKind.i64.wrap (-(i + 1)) = -(i + 1)) (mi : (-(i + 1)).tmod (M : Int) = (I : Nat)) (nj : ¬ j < 0) (mj : j.tmod (M : Int) = (J : Nat)) (hI : I < 2000) (hJ : J < 2000) (ha : 4 + 2 * I = a) (hb : 4 + 2 * J = b) (ha' : a + 1 = a') (hb' : b + 1 = b') (la : a' < d.size) (lb : b' < d.size)
    (e0 : Hid (d.data.toList[b]?.getD 0 = x0)) (e1 : Hid (d.data.toList[b']?.getD 0 = x1)) (e2 : Hid (d.data.toList[a]?.getD 0 = x2)) (e3 : Hid (d.data.toList[a']?.getD 0 = x3)) (hC : Hid (C = ⟨(swpB d.data.toList a b).toArray⟩))
    (hq : ¬ C.toList = d.toList ∨ (C.toList = d.toList ∧ a1 = a2 ∧ k1 = k2 ∧ s1 = s2))
    (HT : Hid (∀ W, Calls Tryz.prog 10 #[.string d] W fun e w' => e = .returned (.tuple #[.int .i64 t, .int .i64 0]) ∧ Below W.heap.size W w'))
    (HU : Hid (∀ W, Calls Tryz.prog 10 #[.string C] W fun e w' => e = .returned (.tuple #[.int .i64 t, .int .i64 0]) ∧ Below W.heap.size W w'))
    (HP : Hid (∀ W, G.Rk W → Calls Tryz.prog 14 #[.string ow, .string d, .int .i64 2] W fun e w' => e = .returned (.tuple #[.agg (dsV T a1 k1 s1), .int .i64 E]) ∧ Below W.heap.size W w'))
    (HQ : Hid (∀ W, G.Rk W → Calls Tryz.prog 14 #[.string ow, .string C, .int .i64 2] W fun e w' => e = .returned (.tuple #[.agg (dsV T a2 k2 s2), .int .i64 E]) ∧ Below W.heap.size W w'))
    (W : World) (hG : Hid (G.Rk W)) :
    Calls Tryz.prog 8 #[.string d, .int .i64 i, .int .i64 j, .string ow] W fun e w' => e = .returned (.bool true) ∧ Below W.heap.size W w' := by
  have HX := Hid.mk kexamples_in
  have w1 : IntKind.i64.wrap ((d.size : Int) - 4) = (d.size : Int) - 4 := by rw [IntKind.wrap_i64]; omega
  have w3 : IntKind.i64.wrap (M : Int) = (M : Int) := by rw [IntKind.wrap_i64]; omega
  have w4 : ¬ ((M : Int) < 2) := by omega
  have w5 : ((M : Int) == 0) = false := by rw [beq_eq_false_iff_ne]; omega
  have w5' : ¬ ((M : Int) = 0) := by omega
  have wi : IntKind.i64.wrap (I : Int) = (I : Int) := by rw [IntKind.wrap_i64]; omega
  have wj : IntKind.i64.wrap (J : Int) = (J : Int) := by rw [IntKind.wrap_i64]; omega
  have wi2 : IntKind.i64.wrap (2 * (I : Int)) = 2 * (I : Int) := by rw [IntKind.wrap_i64]; omega
  have wj2 : IntKind.i64.wrap (2 * (J : Int)) = 2 * (J : Int) := by rw [IntKind.wrap_i64]; omega
  have wi4 : IntKind.i64.wrap (4 + 2 * (I : Int)) = (a : Int) := by rw [IntKind.wrap_i64]; omega
  have wj4 : IntKind.i64.wrap (4 + 2 * (J : Int)) = (b : Int) := by rw [IntKind.wrap_i64]; omega
  have wa : IntKind.i64.wrap ((a : Int) + 1) = (a' : Int) := by rw [IntKind.wrap_i64]; omega
  have wb : IntKind.i64.wrap ((b : Int) + 1) = (b' : Int) := by rw [IntKind.wrap_i64]; omega
  have ib : ∀ w, (Instr.index 9 (.string d) (.int .i64 (b : Int))).run Tryz.prog w = .ok (.int .u8 (x0.toNat : Int)) w := fun w => by rw [kidx d b (by omega) w, e0.out]
  have ib1 : ∀ w, (Instr.index 9 (.string d) (.int .i64 (b' : Int))).run Tryz.prog w = .ok (.int .u8 (x1.toNat : Int)) w := fun w => by rw [kidx d b' (by omega) w, e1.out]
  have ia : ∀ w, (Instr.index 9 (.string d) (.int .i64 (a : Int))).run Tryz.prog w = .ok (.int .u8 (x2.toNat : Int)) w := fun w => by rw [kidx d a (by omega) w, e2.out]
  have ia1 : ∀ w, (Instr.index 9 (.string d) (.int .i64 (a' : Int))).run Tryz.prog w = .ok (.int .u8 (x3.toNat : Int)) w := fun w => by rw [kidx d a' (by omega) w, e3.out]
  have hcv := fun W : World => Lib.run_convert_string_bytes (P := Tryz.prog) W 9 55 5 d Tryz.underlying9 Tryz.underlying55 Tryz.underlying5
  have hda : (a : Int) < (d.size : Int) := by omega
  have hdb : (b : Int) < (d.size : Int) := by omega
  have hda1 : (a' : Int) < (d.size : Int) := by omega
  have hdb1 : (b' : Int) < (d.size : Int) := by omega
  have LA := Hid.mk la
  have LB := Hid.mk lb
  have HD := Hid.mk hd
  have H8 := Hid.mk h8
  have HA' := Hid.mk ha'
  have HB' := Hid.mk hb'
  clear hd h8 hM2 hMl hI hJ ha hb la lb ha' hb'
  go_enter Tryz.func8, Tryz.ntmps8
  go_wp2_with fail
  refine (HX.out _ hG.out).mono ?_
  rintro e z1 ⟨rfl, hb1⟩
  go_wp2_with fail
  refine (HT.out _).mono ?_
  rintro e z2 ⟨rfl, hb2⟩
  have B2 := Hid.mk (bth hb1 hb2 hb1.size)
  clear hb1 hb2
  have V0 := Hid.mk (bytesAt_conv z2 d)
  have B3 := Hid.mk (bth B2.out (bytesWorld_below z2 d) B2.out.size)
  have hcz := hcv z2
  have hlt : z2.heap.size < (Lib.bytesWorld z2 5 d).heap.size := Array.getElem?_eq_some_iff.1 (Lib.bytesWorld_at_new z2 5 d) |>.1
  generalize hV : Lib.bytesWorld z2 5 d = V at V0 B3 hcz hlt
  clear hcv hV
  have LT := Hid.mk hlt
  clear hlt
  have VS := Hid.mk (swp_at V0.out a b x0 x1 x2 x3 HA'.out HB'.out e0.out e1.out e2.out e3.out)
  obtain ⟨c0, f0⟩ := V0.out a (by rw [size_list]; have := LA.out; have := HA'.out; omega)
  have f1 := (V0.out a' (by rw [size_list]; exact LA.out)).2
  have f2 := (V0.out b (by rw [size_list]; have := LB.out; have := HB'.out; omega)).2
  have f3 := (V0.out b' (by rw [size_list]; exact LB.out)).2
  have c1 := ((V0.out.set a x0) a' (by rw [List.length_set, size_list]; exact LA.out)).1
  have c2 := (((V0.out.set a x0).set a' x1) b (by rw [List.length_set, List.length_set, size_list]; have := LB.out; have := HB'.out; omega)).1
  have c3 := ((((V0.out.set a x0).set a' x1).set b x2) b' (by rw [List.length_set, List.length_set, List.length_set, size_list]; exact LB.out)).1
  have SL := Hid.mk (show (swpB d.data.toList a b).length = d.size by rw [swpB_length, size_list])
  have B4 := Hid.mk ((((B3.out.setCell (p := ⟨z2.heap.size, a, none⟩) B2.out.size (.int .u8 (x0.toNat : Int))).setCell (p := ⟨z2.heap.size, a', none⟩) B2.out.size (.int .u8 (x1.toNat : Int))).setCell (p := ⟨z2.heap.size, b, none⟩) B2.out.size (.int .u8 (x2.toNat : Int))).setCell (p := ⟨z2.heap.size, b', none⟩) B2.out.size (.int .u8 (x3.toNat : Int)))
  have hbk := bytesAt_back (cap := grownCap z2 d.size 0 5) VS.out SL.out
  rw [← hC.out] at hbk
  go_wp2_with fail
  have LS : 0 < (swpB d.data.toList a b).length := by rw [SL.out]; have := H8.out; omega
  have LX := Hid.mk LS
  clear LS
  refine (HU.out _).mono ?_
  rintro e z3 ⟨rfl, hb3⟩
  have B5 := Hid.mk (bth B4.out hb3 B4.out.size)
  have V5 := Hid.mk (bytesAt_below VS.out LX.out hb3 (by simp; exact LT.out))
  have G5 := Hid.mk (show z2.heap.size < z3.heap.size from Nat.lt_of_lt_of_le LT.out (Nat.le_trans (by simp) hb3.size))
  clear hb3 hbk c0 c1 c2 c3 f0 f1 f2 f3 hcz ia ia1 ib ib1
  go_wp2_with fail
  refine (HP.out _ (hG.out.below B5.out)).mono ?_
  rintro e z4 ⟨rfl, hb4⟩
  have B6 := Hid.mk (bth B5.out hb4 B5.out.size)
  have V6 := Hid.mk (bytesAt_below V5.out LX.out hb4 G5.out)
  have G6 := Hid.mk (Nat.lt_of_lt_of_le G5.out hb4.size)
  have hA := (Below.refl z4.heap.size z4).alloc (Nat.le_refl _) (.cells (dsV T a1 k1 s1) 23)
  have V7 := Hid.mk (bytesAt_below V6.out LX.out hA G6.out)
  have B7 := Hid.mk (bth B6.out hA B6.out.size)
  have G7 := Hid.mk (Nat.lt_of_lt_of_le G6.out hA.size)
  have hbk := bytesAt_back (cap := grownCap z2 d.size 0 5) V7.out SL.out
  rw [← hC.out] at hbk
  clear hb4 hA
  go_wp2_with fail
  refine (HQ.out _ (hG.out.below B7.out)).mono ?_
  rintro e z5 ⟨rfl, hb5⟩
  have B8 := Hid.mk (bth B7.out hb5 B7.out.size)
  have V8 := Hid.mk (bytesAt_below V7.out LX.out hb5 G7.out)
  have G8 := Hid.mk (Nat.lt_of_lt_of_le G7.out hb5.size)
  have hx := (hb5.block _ (by simp)).trans (heap_new z4 (.cells (dsV T a1 k1 s1) 23))
  have hxl := box_lt hx
  obtain ⟨p0, p1, p2, p3⟩ := ds4' hx
  have hA := (Below.refl z5.heap.size z5).alloc (Nat.le_refl _) (.cells (dsV T a2 k2 s2) 23)
  have V9 := Hid.mk (bytesAt_below V8.out LX.out hA G8.out)
  have B9 := Hid.mk (bth B8.out hA B8.out.size)
  have hbk2 := bytesAt_back (cap := grownCap z2 d.size 0 5) V9.out SL.out
  rw [← hC.out] at hbk2
  have hne : z4.heap.size ≠ z5.heap.size := by omega
  clear hb5 hA hbk hx
  rcases hq with hq | ⟨hq, rfl, rfl, rfl⟩
  · go_wp2
    go_ret
    exact ⟨rfl, B9.out⟩
  · go_wp2
    go_ret
    exact ⟨rfl, B9.out⟩
set_option maxRecDepth 100000 in
set_option maxHeartbeats 2000000 in
theorem swaps_pn (d ow C : ByteArray) (i j : Int) (M I J a b a' b' : Nat) (x0 x1 x2 x3 : UInt8) (t a1 a2 k1 k2 E T : Int) (s1 s2 : ByteArray) (hd : d.size ≤ 2000) (h8 : 8 ≤ d.size) (hM : ((d.size : Int) - 4).tdiv 2 = (M : Nat)) (hM2 : 2 ≤ M) (hMl : M ≤ 2000)
    (ni : ¬ i < 0) (mi : i.tmod (M : Int) = (I : Nat)) (nj : j < 0) (wj1 : IntKind.i64.wrap (j + 1) = j + 1) (wj2 : IntKind.i64.wrap (-(j + 1)) = -(j + 1)) (mj : (-(j + 1)).tmod (M : Int) = (J : Nat)) (hI : I < 2000) (hJ : J < 2000) (ha : 4 + 2 * I = a) (hb : 4 + 2 * J = b) (ha' : a + 1 = a') (hb' : b + 1 = b') (la : a' < d.size) (lb : b' < d.size)
    (e0 : Hid (d.data.toList[b]?.getD 0 = x0)) (e1 : Hid (d.data.toList[b']?.getD 0 = x1)) (e2 : Hid (d.data.toList[a]?.getD 0 = x2)) (e3 : Hid (d.data.toList[a']?.getD 0 = x3)) (hC : Hid (C = ⟨(swpB d.data.toList a b).toArray⟩))
    (hq : ¬ C.toList = d.toList ∨ (C.toList = d.toList ∧ a1 = a2 ∧ k1 = k2 ∧ s1 = s2))
    (HT : Hid (∀ W, Calls Tryz.prog 10 #[.string d] W fun e w' => e = .returned (.tuple #[.int .i64 t, .int .i64 0]) ∧ Below W.heap.size W w'))
    (HU : Hid (∀ W, Calls Tryz.prog 10 #[.string C] W fun e w' => e = .returned (.tuple #[.int .i64 t, .int .i64 0]) ∧ Below W.heap.size W w'))
    (HP : Hid (∀ W, G.Rk W → Calls Tryz.prog 14 #[.string ow, .string d, .int .i64 2] W fun e w' => e = .returned (.tuple #[.agg (dsV T a1 k1 s1), .int .i64 E]) ∧ Below W.heap.size W w'))
    (HQ : Hid (∀ W, G.Rk W → Calls Tryz.prog 14 #[.string ow, .string C, .int .i64 2] W fun e w' => e = .returned (.tuple #[.agg (dsV T a2 k2 s2), .int .i64 E]) ∧ Below W.heap.size W w'))
    (W : World) (hG : Hid (G.Rk W)) :
    Calls Tryz.prog 8 #[.string d, .int .i64 i, .int .i64 j, .string ow] W fun e w' => e = .returned (.bool true) ∧ Below W.heap.size W w' := by
  have HX := Hid.mk kexamples_in
  have w1 : IntKind.i64.wrap ((d.size : Int) - 4) = (d.size : Int) - 4 := by rw [IntKind.wrap_i64]; omega
  have w3 : IntKind.i64.wrap (M : Int) = (M : Int) := by rw [IntKind.wrap_i64]; omega
  have w4 : ¬ ((M : Int) < 2) := by omega
  have w5 : ((M : Int) == 0) = false := by rw [beq_eq_false_iff_ne]; omega
  have w5' : ¬ ((M : Int) = 0) := by omega
  have wi : IntKind.i64.wrap (I : Int) = (I : Int) := by rw [IntKind.wrap_i64]; omega
  have wj : IntKind.i64.wrap (J : Int) = (J : Int) := by rw [IntKind.wrap_i64]; omega
  have wi2 : IntKind.i64.wrap (2 * (I : Int)) = 2 * (I : Int) := by rw [IntKind.wrap_i64]; omega
  have wj2 : IntKind.i64.wrap (2 * (J : Int)) = 2 * (J : Int) := by rw [IntKind.wrap_i64]; omega
  have wi4 : IntKind.i64.wrap (4 + 2 * (I : Int)) = (a : Int) := by rw [IntKind.wrap_i64]; omega
  have wj4 : IntKind.i64.wrap (4 + 2 * (J : Int)) = (b : Int) := by rw [IntKind.wrap_i64]; omega
  have wa : IntKind.i64.wrap ((a : Int) + 1) = (a' : Int) := by rw [IntKind.wrap_i64]; omega
  have wb : IntKind.i64.wrap ((b : Int) + 1) = (b' : Int) := by rw [IntKind.wrap_i64]; omega
  have ib : ∀ w, (Instr.index 9 (.string d) (.int .i64 (b : Int))).run Tryz.prog w = .ok (.int .u8 (x0.toNat : Int)) w := fun w => by rw [kidx d b (by omega) w, e0.out]
  have ib1 : ∀ w, (Instr.index 9 (.string d) (.int .i64 (b' : Int))).run Tryz.prog w = .ok (.int .u8 (x1.toNat : Int)) w := fun w => by rw [kidx d b' (by omega) w, e1.out]
  have ia : ∀ w, (Instr.index 9 (.string d) (.int .i64 (a : Int))).run Tryz.prog w = .ok (.int .u8 (x2.toNat : Int)) w := fun w => by rw [kidx d a (by omega) w, e2.out]
  have ia1 : ∀ w, (Instr.index 9 (.string d) (.int .i64 (a' : Int))).run Tryz.prog w = .ok (.int .u8 (x3.toNat : Int)) w := fun w => by rw [kidx d a' (by omega) w, e3.out]
  have hcv := fun W : World => Lib.run_convert_string_bytes (P := Tryz.prog) W 9 55 5 d Tryz.underlying9 Tryz.underlying55 Tryz.underlying5
  have hda : (a : Int) < (d.size : Int) := by omega
  have hdb : (b : Int) < (d.size : Int) := by omega
  have hda1 : (a' : Int) < (d.size : Int) := by omega
  have hdb1 : (b' : Int) < (d.size : Int) := by omega
  have LA := Hid.mk la
  have LB := Hid.mk lb
  have HD := Hid.mk hd
  have H8 := Hid.mk h8
  have HA' := Hid.mk ha'
  have HB' := Hid.mk hb'
  clear hd h8 hM2 hMl hI hJ ha hb la lb ha' hb'
  go_enter Tryz.func8, Tryz.ntmps8
  go_wp2_with fail
  refine (HX.out _ hG.out).mono ?_
  rintro e z1 ⟨rfl, hb1⟩
  go_wp2_with fail
  refine (HT.out _).mono ?_
  rintro e z2 ⟨rfl, hb2⟩
  have B2 := Hid.mk (bth hb1 hb2 hb1.size)
  clear hb1 hb2
  have V0 := Hid.mk (bytesAt_conv z2 d)
  have B3 := Hid.mk (bth B2.out (bytesWorld_below z2 d) B2.out.size)
  have hcz := hcv z2
  have hlt : z2.heap.size < (Lib.bytesWorld z2 5 d).heap.size := Array.getElem?_eq_some_iff.1 (Lib.bytesWorld_at_new z2 5 d) |>.1
  generalize hV : Lib.bytesWorld z2 5 d = V at V0 B3 hcz hlt
  clear hcv hV
  have LT := Hid.mk hlt
  clear hlt
  have VS := Hid.mk (swp_at V0.out a b x0 x1 x2 x3 HA'.out HB'.out e0.out e1.out e2.out e3.out)
  obtain ⟨c0, f0⟩ := V0.out a (by rw [size_list]; have := LA.out; have := HA'.out; omega)
  have f1 := (V0.out a' (by rw [size_list]; exact LA.out)).2
  have f2 := (V0.out b (by rw [size_list]; have := LB.out; have := HB'.out; omega)).2
  have f3 := (V0.out b' (by rw [size_list]; exact LB.out)).2
  have c1 := ((V0.out.set a x0) a' (by rw [List.length_set, size_list]; exact LA.out)).1
  have c2 := (((V0.out.set a x0).set a' x1) b (by rw [List.length_set, List.length_set, size_list]; have := LB.out; have := HB'.out; omega)).1
  have c3 := ((((V0.out.set a x0).set a' x1).set b x2) b' (by rw [List.length_set, List.length_set, List.length_set, size_list]; exact LB.out)).1
  have SL := Hid.mk (show (swpB d.data.toList a b).length = d.size by rw [swpB_length, size_list])
  have B4 := Hid.mk ((((B3.out.setCell (p := ⟨z2.heap.size, a, none⟩) B2.out.size (.int .u8 (x0.toNat : Int))).setCell (p := ⟨z2.heap.size, a', none⟩) B2.out.size (.int .u8 (x1.toNat : Int))).setCell (p := ⟨z2.heap.size, b, none⟩) B2.out.size (.int .u8 (x2.toNat : Int))).setCell (p := ⟨z2.heap.size, b', none⟩) B2.out.size (.int .u8 (x3.toNat : Int)))
  have hbk := bytesAt_back (cap := grownCap z2 d.size 0 5) VS.out SL.out
  rw [← hC.out] at hbk
  go_wp2_with fail
  have LS : 0 < (swpB d.data.toList a b).length := by rw [SL.out]; have := H8.out; omega
  have LX := Hid.mk LS
  clear LS
  refine (HU.out _).mono ?_
  rintro e z3 ⟨rfl, hb3⟩
  have B5 := Hid.mk (bth B4.out hb3 B4.out.size)
  have V5 := Hid.mk (bytesAt_below VS.out LX.out hb3 (by simp; exact LT.out))
  have G5 := Hid.mk (show z2.heap.size < z3.heap.size from Nat.lt_of_lt_of_le LT.out (Nat.le_trans (by simp) hb3.size))
  clear hb3 hbk c0 c1 c2 c3 f0 f1 f2 f3 hcz ia ia1 ib ib1
  go_wp2_with fail
  refine (HP.out _ (hG.out.below B5.out)).mono ?_
  rintro e z4 ⟨rfl, hb4⟩
  have B6 := Hid.mk (bth B5.out hb4 B5.out.size)
  have V6 := Hid.mk (bytesAt_below V5.out LX.out hb4 G5.out)
  have G6 := Hid.mk (Nat.lt_of_lt_of_le G5.out hb4.size)
  have hA := (Below.refl z4.heap.size z4).alloc (Nat.le_refl _) (.cells (dsV T a1 k1 s1) 23)
  have V7 := Hid.mk (bytesAt_below V6.out LX.out hA G6.out)
  have B7 := Hid.mk (bth B6.out hA B6.out.size)
  have G7 := Hid.mk (Nat.lt_of_lt_of_le G6.out hA.size)
  have hbk := bytesAt_back (cap := grownCap z2 d.size 0 5) V7.out SL.out
  rw [← hC.out] at hbk
  clear hb4 hA
  go_wp2_with fail
  refine (HQ.out _ (hG.out.below B7.out)).mono ?_
  rintro e z5 ⟨rfl, hb5⟩
  have B8 := Hid.mk (bth B7.out hb5 B7.out.size)
  have V8 := Hid.mk (bytesAt_below V7.out LX.out hb5 G7.out)
  have G8 := Hid.mk (Nat.lt_of_lt_of_le G7.out hb5.size)
  have hx := (hb5.block _ (by simp)).trans (heap_new z4 (.cells (dsV T a1 k1 s1) 23))
  have hxl := box_lt hx
  obtain ⟨p0, p1, p2, p3⟩ := ds4' hx
  have hA := (Below.refl z5.heap.size z5).alloc (Nat.le_refl _) (.cells (dsV T a2 k2 s2) 23)
  have V9 := Hid.mk (bytesAt_below V8.out LX.out hA G8.out)
  have B9 := Hid.mk (bth B8.out hA B8.out.size)
  have hbk2 := bytesAt_back (cap := grownCap z2 d.size 0 5) V9.out SL.out
  rw [← hC.out] at hbk2
  have hne : z4.heap.size ≠ z5.heap.size := by omega
  clear hb5 hA hbk hx
  rcases hq with hq | ⟨hq, rfl, rfl, rfl⟩
  · go_wp2
    go_ret
    exact ⟨rfl, B9.out⟩
  · go_wp2
    go_ret
    exact ⟨rfl, B9.out⟩
set_option maxRecDepth 100000 in
set_option maxHeartbeats 2000000 in
theorem swaps_nn (d ow C : ByteArray) (i j : Int) (M I J a b a' b' : Nat) (x0 x1 x2 x3 : UInt8) (t a1 a2 k1 k2 E T : Int) (s1 s2 : ByteArray) (hd : d.size ≤ 2000) (h8 : 8 ≤ d.size) (hM : ((d.size : Int) - 4).tdiv 2 = (M : Nat)) (hM2 : 2 ≤ M) (hMl : M ≤ 2000)
    (ni : i < 0) (wi1 : IntKind.i64.wrap (i + 1) = i + 1) (wi2 : IntKind.i64.wrap (-(i + 1)) = -(i + 1)) (mi : (-(i + 1)).tmod (M : Int) = (I : Nat)) (nj : j < 0) (wj1 : IntKind.i64.wrap (j + 1) = j + 1) (wj2 : IntKind.i64.wrap (-(j + 1)) = -(j + 1)) (mj : (-(j + 1)).tmod (M : Int) = (J : Nat)) (hI : I < 2000) (hJ : J < 2000) (ha : 4 + 2 * I = a) (hb : 4 + 2 * J = b) (ha' : a + 1 = a') (hb' : b + 1 = b') (la : a' < d.size) (lb : b' < d.size)
    (e0 : Hid (d.data.toList[b]?.getD 0 = x0)) (e1 : Hid (d.data.toList[b']?.getD 0 = x1)) (e2 : Hid (d.data.toList[a]?.getD 0 = x2)) (e3 : Hid (d.data.toList[a']?.getD 0 = x3)) (hC : Hid (C = ⟨(swpB d.data.toList a b).toArray⟩))
    (hq : ¬ C.toList = d.toList ∨ (C.toList = d.toList ∧ a1 = a2 ∧ k1 = k2 ∧ s1 = s2))
    (HT : Hid (∀ W, Calls Tryz.prog 10 #[.string d] W fun e w' => e = .returned (.tuple #[.int .i64 t, .int .i64 0]) ∧ Below W.heap.size W w'))
    (HU : Hid (∀ W, Calls Tryz.prog 10 #[.string C] W fun e w' => e = .returned (.tuple #[.int .i64 t, .int .i64 0]) ∧ Below W.heap.size W w'))
    (HP : Hid (∀ W, G.Rk W → Calls Tryz.prog 14 #[.string ow, .string d, .int .i64 2] W fun e w' => e = .returned (.tuple #[.agg (dsV T a1 k1 s1), .int .i64 E]) ∧ Below W.heap.size W w'))
    (HQ : Hid (∀ W, G.Rk W → Calls Tryz.prog 14 #[.string ow, .string C, .int .i64 2] W fun e w' => e = .returned (.tuple #[.agg (dsV T a2 k2 s2), .int .i64 E]) ∧ Below W.heap.size W w'))
    (W : World) (hG : Hid (G.Rk W)) :
    Calls Tryz.prog 8 #[.string d, .int .i64 i, .int .i64 j, .string ow] W fun e w' => e = .returned (.bool true) ∧ Below W.heap.size W w' := by
  have HX := Hid.mk kexamples_in
  have w1 : IntKind.i64.wrap ((d.size : Int) - 4) = (d.size : Int) - 4 := by rw [IntKind.wrap_i64]; omega
  have w3 : IntKind.i64.wrap (M : Int) = (M : Int) := by rw [IntKind.wrap_i64]; omega
  have w4 : ¬ ((M : Int) < 2) := by omega
  have w5 : ((M : Int) == 0) = false := by rw [beq_eq_false_iff_ne]; omega
  have w5' : ¬ ((M : Int) = 0) := by omega
  have wi : IntKind.i64.wrap (I : Int) = (I : Int) := by rw [IntKind.wrap_i64]; omega
  have wj : IntKind.i64.wrap (J : Int) = (J : Int) := by rw [IntKind.wrap_i64]; omega
  have wi2 : IntKind.i64.wrap (2 * (I : Int)) = 2 * (I : Int) := by rw [IntKind.wrap_i64]; omega
  have wj2 : IntKind.i64.wrap (2 * (J : Int)) = 2 * (J : Int) := by rw [IntKind.wrap_i64]; omega
  have wi4 : IntKind.i64.wrap (4 + 2 * (I : Int)) = (a : Int) := by rw [IntKind.wrap_i64]; omega
  have wj4 : IntKind.i64.wrap (4 + 2 * (J : Int)) = (b : Int) := by rw [IntKind.wrap_i64]; omega
  have wa : IntKind.i64.wrap ((a : Int) + 1) = (a' : Int) := by rw [IntKind.wrap_i64]; omega
  have wb : IntKind.i64.wrap ((b : Int) + 1) = (b' : Int) := by rw [IntKind.wrap_i64]; omega
  have ib : ∀ w, (Instr.index 9 (.string d) (.int .i64 (b : Int))).run Tryz.prog w = .ok (.int .u8 (x0.toNat : Int)) w := fun w => by rw [kidx d b (by omega) w, e0.out]
  have ib1 : ∀ w, (Instr.index 9 (.string d) (.int .i64 (b' : Int))).run Tryz.prog w = .ok (.int .u8 (x1.toNat : Int)) w := fun w => by rw [kidx d b' (by omega) w, e1.out]
  have ia : ∀ w, (Instr.index 9 (.string d) (.int .i64 (a : Int))).run Tryz.prog w = .ok (.int .u8 (x2.toNat : Int)) w := fun w => by rw [kidx d a (by omega) w, e2.out]
  have ia1 : ∀ w, (Instr.index 9 (.string d) (.int .i64 (a' : Int))).run Tryz.prog w = .ok (.int .u8 (x3.toNat : Int)) w := fun w => by rw [kidx d a' (by omega) w, e3.out]
  have hcv := fun W : World => Lib.run_convert_string_bytes (P := Tryz.prog) W 9 55 5 d Tryz.underlying9 Tryz.underlying55 Tryz.underlying5
  have hda : (a : Int) < (d.size : Int) := by omega
  have hdb : (b : Int) < (d.size : Int) := by omega
  have hda1 : (a' : Int) < (d.size : Int) := by omega
  have hdb1 : (b' : Int) < (d.size : Int) := by omega
  have LA := Hid.mk la
  have LB := Hid.mk lb
  have HD := Hid.mk hd
  have H8 := Hid.mk h8
  have HA' := Hid.mk ha'
  have HB' := Hid.mk hb'
  clear hd h8 hM2 hMl hI hJ ha hb la lb ha' hb'
  go_enter Tryz.func8, Tryz.ntmps8
  go_wp2_with fail
  refine (HX.out _ hG.out).mono ?_
  rintro e z1 ⟨rfl, hb1⟩
  go_wp2_with fail
  refine (HT.out _).mono ?_
  rintro e z2 ⟨rfl, hb2⟩
  have B2 := Hid.mk (bth hb1 hb2 hb1.size)
  clear hb1 hb2
  have V0 := Hid.mk (bytesAt_conv z2 d)
  have B3 := Hid.mk (bth B2.out (bytesWorld_below z2 d) B2.out.size)
  have hcz := hcv z2
  have hlt : z2.heap.size < (Lib.bytesWorld z2 5 d).heap.size := Array.getElem?_eq_some_iff.1 (Lib.bytesWorld_at_new z2 5 d) |>.1
  generalize hV : Lib.bytesWorld z2 5 d = V at V0 B3 hcz hlt
  clear hcv hV
  have LT := Hid.mk hlt
  clear hlt
  have VS := Hid.mk (swp_at V0.out a b x0 x1 x2 x3 HA'.out HB'.out e0.out e1.out e2.out e3.out)
  obtain ⟨c0, f0⟩ := V0.out a (by rw [size_list]; have := LA.out; have := HA'.out; omega)
  have f1 := (V0.out a' (by rw [size_list]; exact LA.out)).2
  have f2 := (V0.out b (by rw [size_list]; have := LB.out; have := HB'.out; omega)).2
  have f3 := (V0.out b' (by rw [size_list]; exact LB.out)).2
  have c1 := ((V0.out.set a x0) a' (by rw [List.length_set, size_list]; exact LA.out)).1
  have c2 := (((V0.out.set a x0).set a' x1) b (by rw [List.length_set, List.length_set, size_list]; have := LB.out; have := HB'.out; omega)).1
  have c3 := ((((V0.out.set a x0).set a' x1).set b x2) b' (by rw [List.length_set, List.length_set, List.length_set, size_list]; exact LB.out)).1
  have SL := Hid.mk (show (swpB d.data.toList a b).length = d.size by rw [swpB_length, size_list])
  have B4 := Hid.mk ((((B3.out.setCell (p := ⟨z2.heap.size, a, none⟩) B2.out.size (.int .u8 (x0.toNat : Int))).setCell (p := ⟨z2.heap.size, a', none⟩) B2.out.size (.int .u8 (x1.toNat : Int))).setCell (p := ⟨z2.heap.size, b, none⟩) B2.out.size (.int .u8 (x2.toNat : Int))).setCell (p := ⟨z2.heap.size, b', none⟩) B2.out.size (.int .u8 (x3.toNat : Int)))
  have hbk := bytesAt_back (cap := grownCap z2 d.size 0 5) VS.out SL.out
  rw [← hC.out] at hbk
  go_wp2_with fail
  have LS : 0 < (swpB d.data.toList a b).length := by rw [SL.out]; have := H8.out; omega
  have LX := Hid.mk LS
  clear LS
  refine (HU.out _).mono ?_
  rintro e z3 ⟨rfl, hb3⟩
  have B5 := Hid.mk (bth B4.out hb3 B4.out.size)
  have V5 := Hid.mk (bytesAt_below VS.out LX.out hb3 (by simp; exact LT.out))
  have G5 := Hid.mk (show z2.heap.size < z3.heap.size from Nat.lt_of_lt_of_le LT.out (Nat.le_trans (by simp) hb3.size))
  clear hb3 hbk c0 c1 c2 c3 f0 f1 f2 f3 hcz ia ia1 ib ib1
  go_wp2_with fail
  refine (HP.out _ (hG.out.below B5.out)).mono ?_
  rintro e z4 ⟨rfl, hb4⟩
  have B6 := Hid.mk (bth B5.out hb4 B5.out.size)
  have V6 := Hid.mk (bytesAt_below V5.out LX.out hb4 G5.out)
  have G6 := Hid.mk (Nat.lt_of_lt_of_le G5.out hb4.size)
  have hA := (Below.refl z4.heap.size z4).alloc (Nat.le_refl _) (.cells (dsV T a1 k1 s1) 23)
  have V7 := Hid.mk (bytesAt_below V6.out LX.out hA G6.out)
  have B7 := Hid.mk (bth B6.out hA B6.out.size)
  have G7 := Hid.mk (Nat.lt_of_lt_of_le G6.out hA.size)
  have hbk := bytesAt_back (cap := grownCap z2 d.size 0 5) V7.out SL.out
  rw [← hC.out] at hbk
  clear hb4 hA
  go_wp2_with fail
  refine (HQ.out _ (hG.out.below B7.out)).mono ?_
  rintro e z5 ⟨rfl, hb5⟩
  have B8 := Hid.mk (bth B7.out hb5 B7.out.size)
  have V8 := Hid.mk (bytesAt_below V7.out LX.out hb5 G7.out)
  have G8 := Hid.mk (Nat.lt_of_lt_of_le G7.out hb5.size)
  have hx := (hb5.block _ (by simp)).trans (heap_new z4 (.cells (dsV T a1 k1 s1) 23))
  have hxl := box_lt hx
  obtain ⟨p0, p1, p2, p3⟩ := ds4' hx
  have hA := (Below.refl z5.heap.size z5).alloc (Nat.le_refl _) (.cells (dsV T a2 k2 s2) 23)
  have V9 := Hid.mk (bytesAt_below V8.out LX.out hA G8.out)
  have B9 := Hid.mk (bth B8.out hA B8.out.size)
  have hbk2 := bytesAt_back (cap := grownCap z2 d.size 0 5) V9.out SL.out
  rw [← hC.out] at hbk2
  have hne : z4.heap.size ≠ z5.heap.size := by omega
  clear hb5 hA hbk hx
  rcases hq with hq | ⟨hq, rfl, rfl, rfl⟩
  · go_wp2
    go_ret
    exact ⟨rfl, B9.out⟩
  · go_wp2
    go_ret
    exact ⟨rfl, B9.out⟩
theorem rem_nat (v : Int) (hv : 0 ≤ v) (M : Nat) (hM : 0 < M) : ∃ I : Nat, v.tmod (M : Int) = (I : Nat) ∧ I < M := by
  refine ⟨(v % (M : Int)).toNat, ?_, ?_⟩
  · rw [Int.tmod_eq_emod_of_nonneg hv]
    have := Int.emod_nonneg v (show (M : Int) ≠ 0 by omega)
    omega
  · have := Int.emod_lt_of_pos v (show (0 : Int) < (M : Int) by omega)
    have := Int.emod_nonneg v (show (M : Int) ≠ 0 by omega)
    omega
theorem keysswaps_walk (d : ByteArray) (hd : d.size ≤ 140737488355328) (i : Int) (hi : (Lit.int .i64 i).wf = true) (j : Int) (hj : (Lit.int .i64 j).wf = true) (ow : ByteArray) (ho : ow.size ≤ 140737488355328) (W : World) (hG : G.Rk W) :
    Calls Tryz.prog 8 #[.string d, .int .i64 i, .int .i64 j, .string ow] W fun e w' => e = .returned (.bool true) ∧ Below W.heap.size W w' := by
  have ho' : ow.size ≤ maxLen := by unfold maxLen; omega
  have hd' : d.size ≤ maxLen := by unfold maxLen; omega
  have hi' := Go.bounds_i64 hi
  have hj' := Go.bounds_i64 hj
  by_cases h : 8 ≤ d.size ∧ d.size ≤ 2000
  · obtain ⟨h8, h2⟩ := h
    obtain ⟨M, hMd⟩ : ∃ M, (d.size - 4) / 2 = M := ⟨_, rfl⟩
    have hM : ((d.size : Int) - 4).tdiv 2 = (M : Nat) := by rw [Int.tdiv_eq_ediv_of_nonneg (by omega)]; omega
    have hM2 : 2 ≤ M := by omega
    obtain ⟨I, mI, lI⟩ : ∃ I : Nat, (if i < 0 then -(i + 1) else i).tmod (M : Int) = (I : Nat) ∧ I < M := rem_nat _ (by split <;> omega) M (by omega)
    obtain ⟨J, mJ, lJ⟩ : ∃ J : Nat, (if j < 0 then -(j + 1) else j).tmod (M : Int) = (J : Nat) ∧ J < M := rem_nat _ (by split <;> omega) M (by omega)
    obtain ⟨a, ha⟩ : ∃ a, 4 + 2 * I = a := ⟨_, rfl⟩
    obtain ⟨b, hb⟩ : ∃ b, 4 + 2 * J = b := ⟨_, rfl⟩
    obtain ⟨C, hC⟩ : ∃ C : ByteArray, C = ⟨(swpB d.data.toList a b).toArray⟩ := ⟨_, rfl⟩
    have hCl : C.data.toList = swpB d.data.toList a b := by rw [hC]
    have hCs : C.size = d.size := by rw [← size_list, hCl, swpB_length, size_list]
    have hTg : tagN C.data.toList = tagN d.data.toList := by
      unfold tagN
      rw [hCl, tagS_swap d.data.toList a b (by omega) (by omega) (by rw [size_list]; omega) (by rw [size_list]; omega)]
    have hE : (digR 2 ow C).2 = (digR 2 ow d).2 := by
      unfold digR
      rw [hCs]
      repeat' split
      all_goals rfl
    have hT1 : (dsR 2 ow C).1.1 = (dsR 2 ow d).1.1 := by
      unfold dsR
      rw [hE, hTg]
      split <;> rfl
    have hE1 : (dsR 2 ow C).2 = (dsR 2 ow d).2 := by
      unfold dsR
      rw [hE]
      split <;> rfl
    have HT := Hid.mk (tag_ok d (by omega) h2)
    have HU := Hid.mk (tag_ok C (by omega) (by omega))
    rw [hTg] at HU
    have HP := Hid.mk (fun W hG => of_in 2 ow d ho' hd' W hG)
    have HQ := Hid.mk (fun W hG => of_in 2 ow C ho' (by rw [hCs]; exact hd') W hG)
    rw [hT1, hE1] at HQ
    have hq : ¬ C.toList = d.toList ∨ (C.toList = d.toList ∧ (dsR 2 ow d).1.2.1 = (dsR 2 ow C).1.2.1 ∧ (dsR 2 ow d).1.2.2.1 = (dsR 2 ow C).1.2.2.1 ∧ (dsR 2 ow d).1.2.2.2 = (dsR 2 ow C).1.2.2.2) := by
      by_cases hc : C = d
      · exact .inr ⟨by rw [hc], by rw [hc], by rw [hc], by rw [hc]⟩
      · exact .inl fun h => hc ((toList_iff _ _).1 h)
    by_cases ci : i < 0
    · rw [if_pos ci] at mI
      have wi1 : IntKind.i64.wrap (i + 1) = i + 1 := by rw [IntKind.wrap_i64]; omega
      have wi2 : IntKind.i64.wrap (-(i + 1)) = -(i + 1) := by rw [IntKind.wrap_i64]; omega
      by_cases cj : j < 0
      · rw [if_pos cj] at mJ
        have wj1 : IntKind.i64.wrap (j + 1) = j + 1 := by rw [IntKind.wrap_i64]; omega
        have wj2 : IntKind.i64.wrap (-(j + 1)) = -(j + 1) := by rw [IntKind.wrap_i64]; omega
        exact swaps_nn d ow C i j M I J a b _ _ _ _ _ _ _ _ _ _ _ _ _ _ _ h2 h8 hM hM2 (by omega) ci wi1 wi2 mI cj wj1 wj2 mJ (by omega) (by omega) ha hb rfl rfl (by omega) (by omega) (Hid.mk rfl) (Hid.mk rfl) (Hid.mk rfl) (Hid.mk rfl) (Hid.mk hC) hq HT HU HP HQ W (Hid.mk hG)
      · rw [if_neg cj] at mJ
        exact swaps_np d ow C i j M I J a b _ _ _ _ _ _ _ _ _ _ _ _ _ _ _ h2 h8 hM hM2 (by omega) ci wi1 wi2 mI cj mJ (by omega) (by omega) ha hb rfl rfl (by omega) (by omega) (Hid.mk rfl) (Hid.mk rfl) (Hid.mk rfl) (Hid.mk rfl) (Hid.mk hC) hq HT HU HP HQ W (Hid.mk hG)
    · rw [if_neg ci] at mI
      by_cases cj : j < 0
      · rw [if_pos cj] at mJ
        have wj1 : IntKind.i64.wrap (j + 1) = j + 1 := by rw [IntKind.wrap_i64]; omega
        have wj2 : IntKind.i64.wrap (-(j + 1)) = -(j + 1) := by rw [IntKind.wrap_i64]; omega
        exact swaps_pn d ow C i j M I J a b _ _ _ _ _ _ _ _ _ _ _ _ _ _ _ h2 h8 hM hM2 (by omega) ci mI cj wj1 wj2 mJ (by omega) (by omega) ha hb rfl rfl (by omega) (by omega) (Hid.mk rfl) (Hid.mk rfl) (Hid.mk rfl) (Hid.mk rfl) (Hid.mk hC) hq HT HU HP HQ W (Hid.mk hG)
      · rw [if_neg cj] at mJ
        exact swaps_pp d ow C i j M I J a b _ _ _ _ _ _ _ _ _ _ _ _ _ _ _ h2 h8 hM hM2 (by omega) ci mI cj mJ (by omega) (by omega) ha hb rfl rfl (by omega) (by omega) (Hid.mk rfl) (Hid.mk rfl) (Hid.mk rfl) (Hid.mk rfl) (Hid.mk hC) hq HT HU HP HQ W (Hid.mk hG)
  · exact swaps_no d hd' i j ow h W hG
end Go.Proofs.YtlcjagkfeakinaaGreatDoor
