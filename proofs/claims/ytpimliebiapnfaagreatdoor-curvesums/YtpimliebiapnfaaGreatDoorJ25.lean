/- Texts of this proof, joined: CSumsW. -/
import Derived.Test.YtpimliebiapnfaaGreatDoorJ24
import Derived.Test.YtpimliebiapnfaaGreatDoorJ17
/- The document's Sum; CurveSums. -/
namespace Go.Proofs.YtpimliebiapnfaaGreatDoor
set_option linter.unusedVariables false
set_option linter.unusedSimpArgs false
open Go.RowKit N
attribute [local go_sem ↓] N.loadAt_nat N.storeAt_nat N.build_nat N.build_nat' loadAt_pt storeAt_pt build_pt0 build_pt0' build_pt'
attribute [local go_sem] N.st1 N.st2a N.st2b N.st1d N.st2ad N.st2bd N.natBuild_run ptst1 ptst1d ptBuild0_run build_pt ptBuild_run
attribute [local go_sem ↓] bin_nat bin_pt
attribute [local go_sem ↓] storeAt_pd loadAt_pd
theorem pdst1 (w : World) (x y : Value) (n : Bool) (h1 : x.oneCell' = true) (h2 : y.oneCell' = true) : (pdStore (.pointer (some ⟨w.heap.size, 0, none⟩)) (.agg #[x, y, .bool n])).run Tryz.prog (w.alloc (Obj.cells #[.slice none 0 0, .slice none 0 0, .bool false] 47 (0, 0))) = .ok () (w.alloc (Obj.cells #[x, y, .bool n] 47 (0, 0))) := by
  rw [pdStore_run (N.heap_new _ _) h1 h2 rfl]
  exact congrArg (Result.ok ()) (N.setRow_new w [.slice none 0 0, .slice none 0 0, .bool false] [x, y, .bool n] 47)
set_option maxRecDepth 100000 in
set_option maxHeartbeats 2000000 in
theorem rSum_yes (W : World) (p q : Ec)  : Calls Tryz.prog 8 #[.string (tellE p), .string (tellE q)] W fun e w' => e = .returned (.tuple #[.string (tellE (p.add q)), .int .i64 0]) ∧ Below W.heap.size W w' := by
  have H1 := Hid.mk (read_yes p)
  have H2 := Hid.mk (read_yes q)
  have HPr := Hid.mk rprime_in
  have HT : Hid (∀ w x y n, PtD w x y n (p.add q) → Calls Tryz.prog 23 #[.agg #[x, y, .bool n]] w fun e w' => e = .returned (.string (tellE (p.add q))) ∧ Below w.heap.size w w') := fun w x y n h => rtell_in x y n _ w h
  have HSu : Hid (∀ w vp x1 y1 n1 x2 y2 n2, RN w vp pP → PtD w x1 y1 n1 p → PtD w x2 y2 n2 q → x1.oneCell' = true → y1.oneCell' = true → x2.oneCell' = true → y2.oneCell' = true → Calls Tryz.prog 24 #[.agg #[vp], .agg #[x1, y1, .bool n1], .agg #[x2, y2, .bool n2]] w fun e w' => ∃ x y n, e = .returned (.agg #[x, y, .bool n]) ∧ x.oneCell' = true ∧ y.oneCell' = true ∧ PtD w' x y n (p.add q) ∧ Below w.heap.size w w') := fun w vp x1 y1 n1 x2 y2 n2 h k l a b c d => rsum_in vp x1 y1 x2 y2 n1 n2 p q w h k l a b c d
  generalize tellE (p.add q) = t at HT ⊢
  generalize tellE p = sp at H1 ⊢
  generalize tellE q = sq at H2 ⊢
  obtain ⟨pp, hpp⟩ : ∃ x, pP = x := ⟨_, rfl⟩
  rw [hpp] at HPr HSu
  clear hpp
  have F := Fm.start W
  go_enter Tryz.func8, Tryz.ntmps8
  go_wp2_with fail
  refine (H1.out _).mono ?_
  rintro e u1 ⟨x1, y1, n1, rfl, o1a, o1b, d1, hb⟩
  replace F := F.blk hb
  clear hb
  have st1 := pdst1 u1 x1 y1 n1 o1a o1b
  go_upto_region 2 with fail
  replace F := F.new (Obj.cells #[x1, y1, .bool n1] 47 (0, 0))
  have hA := (Below.refl u1.heap.size u1).alloc (Nat.le_refl _) (Obj.cells #[x1, y1, .bool n1] 47 (0, 0))
  replace d1 := d1.blk hA
  clear hA st1
  generalize u1.alloc (Obj.cells #[x1, y1, .bool n1] 47 (0, 0)) = z1 at F d1 ⊢
  generalize u1.heap.size = b1 at F ⊢
  go_wp2_with fail
  refine (H2.out _).mono ?_
  rintro e u2 ⟨x2, y2, n2, rfl, o2a, o2b, d2, hb⟩
  replace F := F.blk hb
  replace d1 := d1.blk hb
  clear hb
  have st2 := pdst1 u2 x2 y2 n2 o2a o2b
  go_upto_region 3 with fail
  replace F := F.new (Obj.cells #[x2, y2, .bool n2] 47 (0, 0))
  have hA := (Below.refl u2.heap.size u2).alloc (Nat.le_refl _) (Obj.cells #[x2, y2, .bool n2] 47 (0, 0))
  replace d2 := d2.blk hA
  replace d1 := d1.blk hA
  clear hA st2
  generalize u2.alloc (Obj.cells #[x2, y2, .bool n2] 47 (0, 0)) = z2 at F d1 d2 ⊢
  generalize u2.heap.size = b2 at F ⊢
  go_upto_region 5 with fail
  obtain ⟨L, hL⟩ : ∃ L : List (Nat × Obj), [(b2, Obj.cells #[x2, y2, .bool n2] 47 (0, 0)), (b1, Obj.cells #[x1, y1, .bool n1] 47 (0, 0))] = L := ⟨_, rfl⟩
  rw [hL] at F
  obtain ⟨K, hK⟩ : ∃ K : World → Prop, K = fun w => Fm W L w ∧ PtD w x1 y1 n1 p ∧ PtD w x2 y2 n2 q := ⟨_, rfl⟩
  have HB : Hid (∀ w w', K w → Below w.heap.size w w' → K w') := by rw [Hid, hK]; exact fun w w' h hb => ⟨h.1.blk hb, h.2.1.blk hb, h.2.2.blk hb⟩
  have HS : Hid (∀ w, K w → K w ∧ (pdLoad (.pointer (some ⟨b1, 0, none⟩))).run Tryz.prog w = .ok (.agg #[x1, y1, .bool n1]) w ∧ (pdLoad (.pointer (some ⟨b2, 0, none⟩))).run Tryz.prog w = .ok (.agg #[x2, y2, .bool n2]) w) := by rw [Hid, hK]; exact fun w h => ⟨h, pdLoad_run (h.1.get 1 (by rw [← hL]; rfl)), pdLoad_run (h.1.get 0 (by rw [← hL]; rfl))⟩
  have HE : Hid (∀ w, K w → Below W.heap.size W w ∧ PtD w x1 y1 n1 p ∧ PtD w x2 y2 n2 q) := by rw [Hid, hK]; exact fun w h => ⟨h.1.bel, h.2.1, h.2.2⟩
  have k0 : K z2.drew := by rw [hK]; exact ⟨F.drew, d1.blk (w' := z2.drew) (Below.refl z2.heap.size z2).drew, d2.blk (w' := z2.drew) (Below.refl z2.heap.size z2).drew⟩
  have hS0 := HS.out _ k0
  clear hK F d1 d2 hL
  have HPs : Hid (∀ w, Calls Tryz.prog 25 #[] w fun e w' => ∃ s k, e = .returned (.slice s (N.mny pp) k) ∧ RN w' (.slice s (N.mny pp) k) pp ∧ Below w.heap.size w w') := fun w => (HPr.out w).mono fun e w' ⟨v, h1, h2, h3⟩ => by
    obtain ⟨s, k, rfl⟩ := h2.sl
    exact ⟨s, k, h1, h2, h3⟩
  go_region_held3 (fun w => K w ∧ (pdLoad (.pointer (some ⟨b1, 0, none⟩))).run Tryz.prog w = .ok (.agg #[x1, y1, .bool n1]) w ∧ (pdLoad (.pointer (some ⟨b2, 0, none⟩))).run Tryz.prog w = .ok (.agg #[x2, y2, .bool n2]) w)
    (first | assumption | exact hS0)
    (first
      | (go_at_call 25; with_reducible refine (HPs.out _).mono ?_; rintro e w3 ⟨s3, k3, rfl, r3, hb3⟩; have kk3 := HB.out _ _ k0 hb3; have hs3 := HS.out _ kk3)
      | (go_at_call 24; with_reducible refine (HSu.out _ _ _ _ _ _ _ _ r3 (HE.out _ kk3).2.1 (HE.out _ kk3).2.2 o1a o1b o2a o2b).mono ?_; rintro e w4 ⟨x4, y4, n4, rfl, g1, g2, d4, hb4⟩; have kk4 := HB.out _ _ kk3 hb4; have hs4 := HS.out _ kk4)
      | (go_at_call 23; with_reducible refine (HT.out _ _ _ _ d4).mono ?_; rintro e w5 ⟨rfl, hb5⟩; have kk5 := HB.out _ _ kk4 hb5; have hs5 := HS.out _ kk5))
  go_wp2
  go_ret2
  exact ⟨rfl, (HE.out _ kk5).1⟩
set_option maxRecDepth 100000 in
set_option maxHeartbeats 2000000 in
theorem rSum_no (W : World) (s t : ByteArray) (h : (ptOf s).2 = false ∨ (ptOf t).2 = false) : Calls Tryz.prog 8 #[.string s, .string t] W fun e w' => e = .returned (.tuple #[.string ⟨#[]⟩, .int .i64 8]) ∧ Below W.heap.size W w' := by
  have H1 : Hid (∀ w, Calls Tryz.prog 22 #[.string s] w fun e w' => ∃ vx vy nb, e = .returned (.tuple #[.agg #[vx, vy, .bool nb], .bool (ptOf s).2]) ∧ vx.oneCell' = true ∧ vy.oneCell' = true ∧ Below w.heap.size w w') := fun w => by
    cases hh : (ptOf s).2 with
    | false => exact read_no s hh w
    | true =>
      obtain ⟨p, hp⟩ := ptOf_ex hh
      rw [hp]
      exact (read_yes p w).mono fun e w' ⟨a, b, c, h1, h2, h3, _, h4⟩ => ⟨a, b, c, h1, h2, h3, h4⟩
  have H2 : Hid (∀ w, Calls Tryz.prog 22 #[.string t] w fun e w' => ∃ vx vy nb, e = .returned (.tuple #[.agg #[vx, vy, .bool nb], .bool (ptOf t).2]) ∧ vx.oneCell' = true ∧ vy.oneCell' = true ∧ Below w.heap.size w w') := fun w => by
    cases hh : (ptOf t).2 with
    | false => exact read_no t hh w
    | true =>
      obtain ⟨p, hp⟩ := ptOf_ex hh
      rw [hp]
      exact (read_yes p w).mono fun e w' ⟨a, b, c, h1, h2, h3, _, h4⟩ => ⟨a, b, c, h1, h2, h3, h4⟩
  generalize (ptOf s).2 = x at H1 h
  generalize (ptOf t).2 = y at H2 h
  have F := Fm.start W
  go_enter Tryz.func8, Tryz.ntmps8
  go_wp2_with fail
  refine (H1.out _).mono ?_
  rintro e u1 ⟨x1, y1, n1, rfl, o1a, o1b, hb⟩
  replace F := F.blk hb
  clear hb
  have st1 := pdst1 u1 x1 y1 n1 o1a o1b
  go_upto_region 2 with fail
  replace F := F.new (Obj.cells #[x1, y1, .bool n1] 47 (0, 0))
  have hA := (Below.refl u1.heap.size u1).alloc (Nat.le_refl _) (Obj.cells #[x1, y1, .bool n1] 47 (0, 0))
  clear hA st1
  generalize u1.alloc (Obj.cells #[x1, y1, .bool n1] 47 (0, 0)) = z1 at F ⊢
  generalize u1.heap.size = b1 at F ⊢
  go_wp2_with fail
  refine (H2.out _).mono ?_
  rintro e u2 ⟨x2, y2, n2, rfl, o2a, o2b, hb⟩
  replace F := F.blk hb
  clear hb
  have st2 := pdst1 u2 x2 y2 n2 o2a o2b
  go_upto_region 3 with fail
  replace F := F.new (Obj.cells #[x2, y2, .bool n2] 47 (0, 0))
  have hA := (Below.refl u2.heap.size u2).alloc (Nat.le_refl _) (Obj.cells #[x2, y2, .bool n2] 47 (0, 0))
  clear hA st2
  generalize u2.alloc (Obj.cells #[x2, y2, .bool n2] 47 (0, 0)) = z2 at F ⊢
  generalize u2.heap.size = b2 at F ⊢
  cases x with
  | false =>
    go_wp2
    go_ret2
    exact ⟨rfl, F.bel⟩
  | true =>
    cases y with
    | false =>
      go_wp2
      go_ret2
      exact ⟨rfl, F.bel⟩
    | true => simp at h
set_option maxRecDepth 100000 in
set_option maxHeartbeats 2000000 in
theorem sums_gen (W : World) (a b s : ByteArray) (er : Int) (D : Bool) (H1 : Hid (∀ w, Calls Tryz.prog 7 #[.string a, .string b] w fun e w' => e = .returned (.tuple #[.string s, .int .i64 er]) ∧ Below w.heap.size w w')) (H2 : Hid (∀ w, Calls Tryz.prog 8 #[.string a, .string b] w fun e w' => e = .returned (.tuple #[.string s, .int .i64 er]) ∧ Below w.heap.size w w')) (H3 : Hid (∀ w, Calls Tryz.prog 9 #[.string a] w fun e w' => e = .returned (.bool D) ∧ Below w.heap.size w w')) (H4 : Hid (∀ w, Calls Tryz.prog 10 #[.string a] w fun e w' => e = .returned (.bool D) ∧ Below w.heap.size w w')) : Calls Tryz.prog 3 #[.string a, .string b] W fun e w' => e = .returned (.bool true) ∧ Below W.heap.size W w' := by
  have HE := Hid.mk examples_in
  have H5 := Hid.mk base_in
  have H6 := Hid.mk rbase_in
  generalize tellE ecG = g at H5 H6
  have F := Fm.start W
  go_enter Tryz.func3, Tryz.ntmps3
  go_wp2_with fail
  refine (HE.out _).mono ?_
  rintro e u1 ⟨rfl, hb⟩
  replace F := F.blk hb
  clear hb
  go_wp2_with fail
  refine (H1.out _).mono ?_
  rintro e u2 ⟨rfl, hb⟩
  replace F := F.blk hb
  clear hb
  go_wp2_with fail
  refine (H2.out _).mono ?_
  rintro e u3 ⟨rfl, hb⟩
  replace F := F.blk hb
  clear hb
  go_wp2_with fail
  refine (H3.out _).mono ?_
  rintro e u4 ⟨rfl, hb⟩
  replace F := F.blk hb
  clear hb
  go_wp2_with fail
  refine (H4.out _).mono ?_
  rintro e u5 ⟨rfl, hb⟩
  replace F := F.blk hb
  clear hb
  go_wp2_with fail
  refine (H5.out _).mono ?_
  rintro e u6 ⟨rfl, hb⟩
  replace F := F.blk hb
  clear hb
  go_wp2_with fail
  refine (H6.out _).mono ?_
  rintro e u7 ⟨rfl, hb⟩
  replace F := F.blk hb
  clear hb
  go_wp2
  go_ret
  exact ⟨by first | rfl | simp, F.bel⟩
theorem curvesums_walk (a : ByteArray) (ha : a.size ≤ 140737488355328) (b : ByteArray) (hb : b.size ≤ 140737488355328) (W : World) (hG : NG W) : Calls Tryz.prog 3 #[.string a, .string b] W fun e w' => e = .returned (.bool true) ∧ Below W.heap.size W w' := by
  have hon : ∃ D, Hid (∀ w, Calls Tryz.prog 9 #[.string a] w fun e w' => e = .returned (.bool D) ∧ Below w.heap.size w w') ∧ Hid (∀ w, Calls Tryz.prog 10 #[.string a] w fun e w' => e = .returned (.bool D) ∧ Below w.heap.size w w') := by
    cases h : (ptOf a).2 with
    | false => exact ⟨false, fun w => ron_n w a h, fun w => on_no a w h⟩
    | true =>
      obtain ⟨p, hp⟩ := ptOf_ex h
      by_cases hz : p = Ec.zero
      · subst hz
        subst hp
        exact ⟨false, fun w => ron_z w, fun w => on_zero Ec.zero w rfl⟩
      · subst hp
        exact ⟨true, fun w => ron_p w p hz, fun w => on_yes p w hz⟩
  obtain ⟨D, H3, H4⟩ := hon
  by_cases h : (ptOf a).2 = false ∨ (ptOf b).2 = false
  · exact sums_gen W a b ⟨#[]⟩ 8 D (fun w => sum_no a b w h) (fun w => rSum_no w a b h) H3 H4
  · have h1 : (ptOf a).2 = true := by cases hh : (ptOf a).2 with | false => exact absurd (.inl hh) h | true => rfl
    have h2 : (ptOf b).2 = true := by cases hh : (ptOf b).2 with | false => exact absurd (.inr hh) h | true => rfl
    obtain ⟨p, hp⟩ := ptOf_ex h1
    obtain ⟨q, hq⟩ := ptOf_ex h2
    subst hp hq
    exact sums_gen W _ _ (tellE (p.add q)) 0 D (fun w => sum_yes p q w) (fun w => rSum_yes w p q) H3 H4
end Go.Proofs.YtpimliebiapnfaaGreatDoor
