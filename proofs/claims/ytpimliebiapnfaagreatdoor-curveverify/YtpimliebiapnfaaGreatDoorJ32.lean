/- Texts of this proof, joined: CRver, CVerW. -/
import Derived.Test.YtpimliebiapnfaaGreatDoorJ31
/- The document's Verify. -/
namespace Go.Proofs.YtpimliebiapnfaaGreatDoor
set_option linter.unusedVariables false
set_option linter.unusedSimpArgs false
open Go.RowKit N
attribute [local go_sem ↓] N.loadAt_nat N.storeAt_nat N.build_nat N.build_nat' loadAt_pt storeAt_pt build_pt0 build_pt0' build_pt'
attribute [local go_sem] N.st1 N.st2a N.st2b N.st1d N.st2ad N.st2bd N.natBuild_run ptst1 ptst1d ptBuild0_run build_pt ptBuild_run
attribute [local go_sem ↓] bin_nat bin_pt
attribute [local go_sem ↓] storeAt_pd loadAt_pd
theorem krN {p : Prop} {V w2 : World} {x y z : Value} (hb : Below (V.alloc (.cells #[x, y, z] 47)).drew.heap.size (V.alloc (.cells #[x, y, z] 47)).drew w2) (k : w2.heap[V.heap.size]? = some (.cells #[x, y, z] 47 (0, 0)) → p) : p :=
  k ((hb.block V.heap.size (by simp)).trans (N.heap_new V _))
theorem krM {p : Prop} {V w2 : World} {x y z : Value} (hb : Below (V.alloc (.cells #[x, y, z] 47)).heap.size (V.alloc (.cells #[x, y, z] 47)) w2) (k : w2.heap[V.heap.size]? = some (.cells #[x, y, z] 47 (0, 0)) → p) : p :=
  k ((hb.block V.heap.size (by simp)).trans (N.heap_new V _))
theorem krO {p : Prop} {w w2 : World} {b : Nat} {x y z : Value} (g : w.heap[b]? = some (.cells #[x, y, z] 47 (0, 0))) (hb : Below w.heap.size w w2) (k : w2.heap[b]? = some (.cells #[x, y, z] 47 (0, 0)) → p) : p :=
  k ((hb.block b (N.box_lt g)).trans g)
theorem PtD.alo {w : World} {x y : Value} {n : Bool} {p : Ec} (h : PtD w x y n p) (o : Obj) : PtD (w.alloc o) x y n p := h.blk ((Below.refl w.heap.size w).alloc (Nat.le_refl _) o)
theorem PtD.row {w : World} {x y : Value} {n : Bool} {p : Ec} {b : Nat} {L z : Array Value} (h : PtD w x y n p) (hb : w.heap[b]? = some (.cells L 47 (0, 0))) : PtD (w.setRow b z) x y n p := by
  unfold PtD at *
  cases hp : p.o with
  | none => rw [hp] at h; exact h
  | some q => rw [hp] at h; exact ⟨h.1, rn_row h.2.1 hb, rn_row h.2.2 hb⟩
theorem RN.alo {w : World} {v : Value} {n : Nat} (h : RN w v n) (o : Obj) : RN (w.alloc o) v n := RN.blk ((Below.refl w.heap.size w).alloc (Nat.le_refl _) o) h
set_option maxRecDepth 100000 in
set_option maxHeartbeats 2000000 in
theorem rver_np (W : World) (pb tx sg : ByteArray) (HR : Hid (∀ w, Calls Tryz.prog 22 #[.string pb] w fun e w' => ∃ vx vy nb, e = .returned (.tuple #[.agg #[vx, vy, .bool nb], .bool false]) ∧ vx.oneCell' = true ∧ vy.oneCell' = true ∧ Below w.heap.size w w')) : Calls Tryz.prog 15 #[.string pb, .string tx, .string sg] W fun e w' => e = .returned (.bool false) ∧ Below W.heap.size W w' := by
  have F := Fm.start W
  go_enter Tryz.func15, Tryz.ntmps15
  go_wp2_with fail
  refine (HR.out _).mono ?_
  rintro e u1 ⟨x1, y1, nb, rfl, o1a, o1b, hb⟩
  replace F := F.blk hb
  clear hb
  have st1 := pdst1 u1 x1 y1 nb o1a o1b
  go_upto_region 2 with fail
  replace F := F.new (Obj.cells #[x1, y1, .bool nb] 47 (0, 0))
  have hA := (Below.refl u1.heap.size u1).alloc (Nat.le_refl _) (Obj.cells #[x1, y1, .bool nb] 47 (0, 0))
  clear hA
  generalize u1.alloc (Obj.cells #[x1, y1, .bool nb] 47 (0, 0)) = z1 at F ⊢
  generalize u1.heap.size = b1 at F ⊢
  clear st1
  go_wp2
  go_ret
  exact ⟨rfl, F.bel⟩
set_option maxRecDepth 100000 in
set_option maxHeartbeats 2000000 in
theorem rver_nw (W : World) (pb tx sg : ByteArray) (HR : Hid (∀ w, Calls Tryz.prog 22 #[.string pb] w fun e w' => ∃ vx vy, e = .returned (.tuple #[.agg #[vx, vy, .bool true], .bool true]) ∧ vx.oneCell' = true ∧ vy.oneCell' = true ∧ Below w.heap.size w w')) : Calls Tryz.prog 15 #[.string pb, .string tx, .string sg] W fun e w' => e = .returned (.bool false) ∧ Below W.heap.size W w' := by
  have F := Fm.start W
  go_enter Tryz.func15, Tryz.ntmps15
  go_wp2_with fail
  refine (HR.out _).mono ?_
  rintro e u1 ⟨x1, y1, rfl, o1a, o1b, hb⟩
  replace F := F.blk hb
  clear hb
  have st1 := pdst1 u1 x1 y1 true o1a o1b
  go_upto_region 2 with fail
  replace F := F.new (Obj.cells #[x1, y1, .bool true] 47 (0, 0))
  have hA := (Below.refl u1.heap.size u1).alloc (Nat.le_refl _) (Obj.cells #[x1, y1, .bool true] 47 (0, 0))
  clear hA
  generalize u1.alloc (Obj.cells #[x1, y1, .bool true] 47 (0, 0)) = z1 at F ⊢
  generalize u1.heap.size = b1 at F ⊢
  clear st1
  have qn : z1.cell? ⟨b1, 2, none⟩ = some (.bool true) := (N.cells_at (L := [x1, y1, .bool true]) (F.get 0 rfl) rfl).1
  go_wp2
  go_ret
  exact ⟨rfl, F.bel⟩
set_option maxRecDepth 100000 in
set_option maxHeartbeats 2000000 in
theorem rver_len (W : World) (pb tx sg : ByteArray) (q : Ec) (HR : Hid (∀ w, Calls Tryz.prog 22 #[.string pb] w fun e w' => ∃ vx vy, e = .returned (.tuple #[.agg #[vx, vy, .bool false], .bool true]) ∧ vx.oneCell' = true ∧ vy.oneCell' = true ∧ PtD w' vx vy false q ∧ Below w.heap.size w w')) (h64 : sg.size ≠ 64) : Calls Tryz.prog 15 #[.string pb, .string tx, .string sg] W fun e w' => e = .returned (.bool false) ∧ Below W.heap.size W w' := by
  have he2 : ((sg.size : Int) != 64) = true := by simp; omega
  clear h64
  have F := Fm.start W
  go_enter Tryz.func15, Tryz.ntmps15
  go_wp2_with fail
  refine (HR.out _).mono ?_
  rintro e u1 ⟨x1, y1, rfl, o1a, o1b, d1, hb⟩
  replace F := F.blk hb
  clear hb
  have st1 := pdst1 u1 x1 y1 false o1a o1b
  go_upto_region 2 with fail
  replace F := F.new (Obj.cells #[x1, y1, .bool false] 47 (0, 0))
  have hA := (Below.refl u1.heap.size u1).alloc (Nat.le_refl _) (Obj.cells #[x1, y1, .bool false] 47 (0, 0))
  replace d1 := d1.blk hA
  clear hA
  generalize u1.alloc (Obj.cells #[x1, y1, .bool false] 47 (0, 0)) = z1 at F d1 ⊢
  generalize u1.heap.size = b1 at F ⊢
  clear st1
  have qn : z1.cell? ⟨b1, 2, none⟩ = some (.bool false) := (N.cells_at (L := [x1, y1, .bool false]) (F.get 0 rfl) rfl).1
  go_wp2
  go_ret
  exact ⟨rfl, F.bel⟩
set_option maxRecDepth 100000 in
set_option maxHeartbeats 2000000 in
theorem rver_bad (W : World) (pb tx sg : ByteArray) (q : Ec) (HR : Hid (∀ w, Calls Tryz.prog 22 #[.string pb] w fun e w' => ∃ vx vy, e = .returned (.tuple #[.agg #[vx, vy, .bool false], .bool true]) ∧ vx.oneCell' = true ∧ vy.oneCell' = true ∧ PtD w' vx vy false q ∧ Below w.heap.size w w')) (h64 : sg.size = 64) (hbad : hiN sg = 0 ∨ loN sg = 0 ∨ ¬ hiN sg < nN ∨ ¬ loN sg < nN) : Calls Tryz.prog 15 #[.string pb, .string tx, .string sg] W fun e w' => e = .returned (.bool false) ∧ Below W.heap.size W w' := by
  have he2 : ((sg.size : Int) != 64) = false := by simp; omega
  have hi1 : (32 : Int) ≤ (sg.size : Int) := by omega
  have hi2 : (0 : Int) ≤ (sg.size : Int) := by omega
  have HX := Hid.mk (rof_ok (sg.extract 0 32) (by rw [ByteArray.size_extract]; omega))
  have HY := Hid.mk (rof_ok (sg.extract 32 sg.size) (by rw [ByteArray.size_extract]; omega))
  rw [show N.numB (sg.extract 0 32).data.toList = hiN sg from rfl] at HX
  rw [show N.numB (sg.extract 32 sg.size).data.toList = loN sg from rfl] at HY
  have HOr := Hid.mk rorder_in
  have HC1 : Hid (∀ w v u, RN w v (hiN sg) → RN w u nN → Calls Tryz.prog 34 #[v, u] w fun e w' => e = .returned (.int .i64 (N.cmpI (hiN sg) nN)) ∧ Below w.heap.size w w') := fun w v u h k => rcmp_b w v u _ _ h k
  have HC2 : Hid (∀ w v u, RN w v (loN sg) → RN w u nN → Calls Tryz.prog 34 #[v, u] w fun e w' => e = .returned (.int .i64 (N.cmpI (loN sg) nN)) ∧ Below w.heap.size w w') := fun w v u h k => rcmp_b w v u _ _ h k
  have hbad2 : hiN sg = 0 ∨ loN sg = 0 ∨ 0 ≤ N.cmpI (hiN sg) nN ∨ 0 ≤ N.cmpI (loN sg) nN := hbad.imp_right fun h => h.imp_right fun h => h.imp cmp_ge cmp_ge
  generalize N.cmpI (hiN sg) nN = c1 at HC1 hbad2
  generalize N.cmpI (loN sg) nN = c2 at HC2 hbad2
  clear hbad
  clear h64
  generalize hiN sg = r at *
  generalize loN sg = s at *
  obtain ⟨sx, hsx⟩ : ∃ t, sg.extract 0 32 = t := ⟨_, rfl⟩
  obtain ⟨sy, hsy⟩ : ∃ t, sg.extract 32 sg.size = t := ⟨_, rfl⟩
  rw [hsx] at HX
  rw [hsy] at HY
  obtain ⟨nn, hnn⟩ : ∃ x, nN = x := ⟨_, rfl⟩
  rw [hnn] at HOr HC1 HC2
  clear hnn
  have F := Fm.start W
  go_enter Tryz.func15, Tryz.ntmps15
  go_wp2_with fail
  refine (HR.out _).mono ?_
  rintro e u1 ⟨x1, y1, rfl, o1a, o1b, d1, hb⟩
  replace F := F.blk hb
  clear hb
  have st1 := pdst1 u1 x1 y1 false o1a o1b
  go_upto_region 2 with fail
  replace F := F.new (Obj.cells #[x1, y1, .bool false] 47 (0, 0))
  have hA := (Below.refl u1.heap.size u1).alloc (Nat.le_refl _) (Obj.cells #[x1, y1, .bool false] 47 (0, 0))
  replace d1 := d1.blk hA
  clear hA
  generalize u1.alloc (Obj.cells #[x1, y1, .bool false] 47 (0, 0)) = z1 at F d1 ⊢
  generalize u1.heap.size = b1 at F ⊢
  clear st1
  have qn : z1.cell? ⟨b1, 2, none⟩ = some (.bool false) := (N.cells_at (L := [x1, y1, .bool false]) (F.get 0 rfl) rfl).1
  go_wp2_with fail
  refine (HOr.out _).mono ?_
  rintro e u4 ⟨vn, rfl, rn, hb⟩
  replace F := F.blk hb
  replace d1 := d1.blk hb
  clear hb
  clear qn
  go_wp2_with fail
  refine (HX.out _).mono ?_
  rintro e u5 ⟨vr, er, rfl, rr, hb⟩
  replace F := F.blk hb
  replace d1 := d1.blk hb
  replace rn := RN.blk hb rn
  clear hb
  go_wp2_with fail
  refine (HY.out _).mono ?_
  rintro e u6 ⟨vs, es, rfl, rs, hb⟩
  replace F := F.blk hb
  replace d1 := d1.blk hb
  replace rn := RN.blk hb rn
  replace rr := RN.blk hb rr
  clear hb
  obtain ⟨pr, kr, rfl⟩ := rr.sl
  obtain ⟨ps, ks, rfl⟩ := rs.sl
  obtain ⟨pn, kn, rfl⟩ := rn.sl
  by_cases h1 : r = 0
  · have hr0 : N.mny r = 0 := by rw [h1]; exact N.mny_zero
    clear h1 hbad2
    go_wp2
    go_ret
    exact ⟨rfl, F.bel⟩
  have hr0 := mny_0 h1
  by_cases h2 : s = 0
  · have hs0 : N.mny s = 0 := by rw [h2]; exact N.mny_zero
    clear h1 h2 hbad2
    go_wp2
    go_ret
    exact ⟨rfl, F.bel⟩
  have hs0 := mny_0 h2
  have hc : 0 ≤ c1 ∨ 0 ≤ c2 := (hbad2.resolve_left h1).resolve_left h2
  clear h1 h2 hbad2
  go_wp2_with fail
  refine (HC1.out _ _ _ rr rn).mono ?_
  rintro e u7 ⟨rfl, hb⟩
  replace F := F.blk hb
  replace d1 := d1.blk hb
  replace rn := RN.blk hb rn
  replace rr := RN.blk hb rr
  replace rs := RN.blk hb rs
  clear hb
  by_cases hc1 : 0 ≤ c1
  · go_wp2
    go_ret
    exact ⟨rfl, F.bel⟩
  have hc2 := hc.resolve_left hc1
  have hd1 : decide (0 ≤ c1) = false := decide_eq_false hc1
  clear hc hc1
  go_wp2_with fail
  refine (HC2.out _ _ _ rs rn).mono ?_
  rintro e u8 ⟨rfl, hb⟩
  replace F := F.blk hb
  replace d1 := d1.blk hb
  replace rn := RN.blk hb rn
  replace rr := RN.blk hb rr
  replace rs := RN.blk hb rs
  clear hb
  go_wp2
  go_ret
  exact ⟨rfl, F.bel⟩
set_option maxRecDepth 100000 in
set_option maxHeartbeats 2000000 in
theorem rver_ok (W : World) (pb tx sg : ByteArray) (q : Ec) (D : Bool) (HR : Hid (∀ w, Calls Tryz.prog 22 #[.string pb] w fun e w' => ∃ vx vy, e = .returned (.tuple #[.agg #[vx, vy, .bool false], .bool true]) ∧ vx.oneCell' = true ∧ vy.oneCell' = true ∧ PtD w' vx vy false q ∧ Below w.heap.size w w')) (h64 : sg.size = 64) (h1 : hiN sg ≠ 0) (h2 : loN sg ≠ 0) (h3 : hiN sg < nN) (h4 : loN sg < nN) (ht : tx.size ≤ 140737488351232) (hD : vfE q (N.numB (G.sha2 tx.data.toList)) (hiN sg) (loN sg) = D) : Calls Tryz.prog 15 #[.string pb, .string tx, .string sg] W fun e w' => e = .returned (.bool D) ∧ Below W.heap.size W w' := by
  have he2 : ((sg.size : Int) != 64) = false := by simp; omega
  have hi1 : (32 : Int) ≤ (sg.size : Int) := by omega
  have hi2 : (0 : Int) ≤ (sg.size : Int) := by omega
  have HX := Hid.mk (rof_ok (sg.extract 0 32) (by rw [ByteArray.size_extract]; omega))
  have HY := Hid.mk (rof_ok (sg.extract 32 sg.size) (by rw [ByteArray.size_extract]; omega))
  rw [show N.numB (sg.extract 0 32).data.toList = hiN sg from rfl] at HX
  rw [show N.numB (sg.extract 32 sg.size).data.toList = loN sg from rfl] at HY
  have HOr := Hid.mk rorder_in
  have HC1 : Hid (∀ w v u, RN w v (hiN sg) → RN w u nN → Calls Tryz.prog 34 #[v, u] w fun e w' => e = .returned (.int .i64 (-1)) ∧ Below w.heap.size w w') := fun w v u h k => (rcmp_b w v u _ _ h k).mono fun e w' ⟨h1, h2⟩ => ⟨by rw [h1, N.cmpI_lt _ _ h3], h2⟩
  have HC2 : Hid (∀ w v u, RN w v (loN sg) → RN w u nN → Calls Tryz.prog 34 #[v, u] w fun e w' => e = .returned (.int .i64 (-1)) ∧ Below w.heap.size w w') := fun w v u h k => (rcmp_b w v u _ _ h k).mono fun e w' ⟨h1, h2⟩ => ⟨by rw [h1, N.cmpI_lt _ _ h4], h2⟩
  unfold vfE at hD
  have HSu := Hid.mk (G.rsum2_in tx ht)
  have HE := Hid.mk (rof_ok ⟨(G.sha2 tx.data.toList).toArray⟩ (by show (G.sha2 tx.data.toList).toArray.size ≤ 32; simp [G.sha2_len]))
  rw [show N.numB (⟨(G.sha2 tx.data.toList).toArray⟩ : ByteArray).data.toList = N.numB (G.sha2 tx.data.toList) from rfl] at HE
  have be := sha2_num tx.data.toList
  generalize (⟨(G.sha2 tx.data.toList).toArray⟩ : ByteArray) = dg at HSu HE
  generalize N.numB (G.sha2 tx.data.toList) = E at HE be hD
  have HIv : Hid (∀ w vp va, RN w vp nN → RN w va (loN sg) → Calls Tryz.prog 36 #[.agg #[vp], va] w fun e w' => ∃ v, e = .returned v ∧ RN w' v (ivN nN (loN sg)) ∧ Below w.heap.size w w') := fun w vp va h k => rnInv w vp va _ h k h4 h2
  have biw : ivN nN (loN sg) < 2 ^ 256 := Nat.lt_trans (iv_spec pr_N h2 h4).2 n256_lt
  generalize ivN nN (loN sg) = iw at HIv biw hD
  have HM1 : Hid (∀ w vp va vb, RN w vp nN → RN w va E → RN w vb iw → Calls Tryz.prog 37 #[.agg #[vp], va, vb] w fun e w' => ∃ v, e = .returned v ∧ RN w' v (E * iw % nN) ∧ Below w.heap.size w w') := fun w vp va vb h k l => rnMul w vp va vb E iw h k l be biw
  have HM2 : Hid (∀ w vp va vb, RN w vp nN → RN w va (hiN sg) → RN w vb iw → Calls Tryz.prog 37 #[.agg #[vp], va, vb] w fun e w' => ∃ v, e = .returned v ∧ RN w' v (hiN sg * iw % nN) ∧ Below w.heap.size w w') := fun w vp va vb h k l => rnMul w vp va vb (hiN sg) iw h k l (Nat.lt_trans h3 n256_lt) biw
  have mm : ∀ A, N.mny (A % nN) ≤ 300 := fun A => Nat.le_trans (mny_256 (Nat.lt_trans (Nat.mod_lt A (by decide)) n256_lt)) (by omega)
  have k1 := mm (E * iw)
  have k2 := mm (hiN sg * iw)
  generalize E * iw % nN = u1 at HM1 k1 hD
  generalize hiN sg * iw % nN = u2 at HM2 k2 hD
  have HT1 : Hid (∀ w vp vk x y n, RN w vp pP → RN w vk u1 → PtD w x y n ecG → Calls Tryz.prog 32 #[.agg #[vp], vk, .agg #[x, y, .bool n]] w fun e w' => ∃ x y n, e = .returned (.agg #[x, y, .bool n]) ∧ x.oneCell' = true ∧ y.oneCell' = true ∧ PtD w' x y n (Ec.mul u1 ecG) ∧ Below w.heap.size w w') := fun w vp vk x y n h k l => rtimes_in vp vk x y n u1 ecG w h k k1 l
  have HT2 : Hid (∀ w vp vk x y n, RN w vp pP → RN w vk u2 → PtD w x y n q → Calls Tryz.prog 32 #[.agg #[vp], vk, .agg #[x, y, .bool n]] w fun e w' => ∃ x y n, e = .returned (.agg #[x, y, .bool n]) ∧ x.oneCell' = true ∧ y.oneCell' = true ∧ PtD w' x y n (Ec.mul u2 q) ∧ Below w.heap.size w w') := fun w vp vk x y n h k l => rtimes_in vp vk x y n u2 q w h k k2 l
  generalize Ec.mul u1 ecG = P1 at HT1 hD
  generalize Ec.mul u2 q = P2 at HT2 hD
  have HSm : Hid (∀ w vp x1 y1 n1 x2 y2 n2, RN w vp pP → PtD w x1 y1 n1 P1 → PtD w x2 y2 n2 P2 → x1.oneCell' = true → y1.oneCell' = true → x2.oneCell' = true → y2.oneCell' = true → Calls Tryz.prog 24 #[.agg #[vp], .agg #[x1, y1, .bool n1], .agg #[x2, y2, .bool n2]] w fun e w' => ∃ x y n, e = .returned (.agg #[x, y, .bool n]) ∧ x.oneCell' = true ∧ y.oneCell' = true ∧ PtD w' x y n (P1.add P2) ∧ Below w.heap.size w w') := fun w vp x1 y1 n1 x2 y2 n2 h k l a b c d => rsum_in vp x1 y1 x2 y2 n1 n2 P1 P2 w h k l a b c d
  generalize P1.add P2 = M at HSm hD
  have HPr := Hid.mk rprime_in
  have HBs := Hid.mk rbase_in
  have HRg := Hid.mk (read_yes ecG)
  generalize tellE ecG = gs at HBs HRg
  generalize ecG = Gp at HT1 HRg
  clear be biw k1 k2 mm ht
  have HMd : Hid (∀ w vp va (t : Pt), RN w vp nN → RN w va t.x.val → Calls Tryz.prog 38 #[.agg #[vp], va] w fun e w' => ∃ v, e = .returned v ∧ RN w' v (t.x.val % nN) ∧ Below w.heap.size w w') := fun w vp va t h k => rmod_in w vp va nN _ h k (Nat.le_trans (mny_p t.x.isLt) (by omega)) (Nat.le_trans mny_N (by omega)) (by decide)
  have HC3 : Hid (∀ w v u (t : Pt), RN w v (t.x.val % nN) → RN w u (hiN sg) → Calls Tryz.prog 34 #[v, u] w fun e w' => (∃ cc : Int, e = .returned (.int .i64 cc) ∧ (cc == 0) = decide (t.x.val % nN = hiN sg)) ∧ Below w.heap.size w w') := fun w v u t h k => (rcmp_b w v u _ _ h k).mono fun e w' ⟨h1, h2⟩ => ⟨⟨_, h1, by
    by_cases e : t.x.val % nN = hiN sg
    · rw [e, N.cmpI_eq, decide_eq_true rfl]; rfl
    · rw [decide_eq_false e, beq_eq_false_iff_ne]
      rcases Nat.lt_or_gt_of_ne e with h | h
      · rw [N.cmpI_lt _ _ h]; decide
      · rw [N.cmpI_gt _ _ h]; decide⟩, h2⟩
  have HD0 : Hid (M.o = none → D = false) := fun h => by rw [← hD, h]
  have HD1 : Hid (∀ t, M.o = some t → D = decide (t.x.val % nN = hiN sg)) := fun t h => by rw [← hD, h]
  clear hD
  clear h64 h3 h4
  generalize hiN sg = r at *
  generalize loN sg = s at *
  have hr0 := mny_0 h1
  have hs0 := mny_0 h2
  clear h1 h2
  obtain ⟨sx, hsx⟩ : ∃ t, sg.extract 0 32 = t := ⟨_, rfl⟩
  obtain ⟨sy, hsy⟩ : ∃ t, sg.extract 32 sg.size = t := ⟨_, rfl⟩
  rw [hsx] at HX
  rw [hsy] at HY
  obtain ⟨nn, hnn⟩ : ∃ x, nN = x := ⟨_, rfl⟩
  rw [hnn] at HOr HC1 HC2 HIv HM1 HM2 HMd HC3 HD1
  clear hnn
  obtain ⟨pp, hpp⟩ : ∃ x, pP = x := ⟨_, rfl⟩
  rw [hpp] at HT1 HT2 HSm HPr
  clear hpp
  have F := Fm.start W
  go_enter Tryz.func15, Tryz.ntmps15
  go_wp2_with fail
  refine (HR.out _).mono ?_
  rintro e u1 ⟨x1, y1, rfl, o1a, o1b, d1, hb⟩
  replace F := F.blk hb
  clear hb
  have st1 := pdst1 u1 x1 y1 false o1a o1b
  go_upto_region 2 with fail
  replace F := F.new (Obj.cells #[x1, y1, .bool false] 47 (0, 0))
  have hA := (Below.refl u1.heap.size u1).alloc (Nat.le_refl _) (Obj.cells #[x1, y1, .bool false] 47 (0, 0))
  replace d1 := d1.blk hA
  clear hA
  generalize u1.alloc (Obj.cells #[x1, y1, .bool false] 47 (0, 0)) = z1 at F d1 ⊢
  generalize u1.heap.size = b1 at F ⊢
  clear st1
  have qn : z1.cell? ⟨b1, 2, none⟩ = some (.bool false) := (N.cells_at (L := [x1, y1, .bool false]) (F.get 0 rfl) rfl).1
  go_wp2_with fail
  refine (HOr.out _).mono ?_
  rintro e u4 ⟨vn, rfl, rn, hb⟩
  replace F := F.blk hb
  replace d1 := d1.blk hb
  clear hb
  clear qn
  go_wp2_with fail
  refine (HX.out _).mono ?_
  rintro e u5 ⟨vr, er, rfl, rr, hb⟩
  replace F := F.blk hb
  replace d1 := d1.blk hb
  replace rn := RN.blk hb rn
  clear hb
  go_wp2_with fail
  refine (HY.out _).mono ?_
  rintro e u6 ⟨vs, es, rfl, rs, hb⟩
  replace F := F.blk hb
  replace d1 := d1.blk hb
  replace rn := RN.blk hb rn
  replace rr := RN.blk hb rr
  clear hb
  obtain ⟨pr, kr, rfl⟩ := rr.sl
  obtain ⟨ps, ks, rfl⟩ := rs.sl
  obtain ⟨pn, kn, rfl⟩ := rn.sl
  go_wp2_with fail
  refine (HC1.out _ _ _ rr rn).mono ?_
  rintro e u7 ⟨rfl, hb⟩
  replace F := F.blk hb
  replace d1 := d1.blk hb
  replace rn := RN.blk hb rn
  replace rr := RN.blk hb rr
  replace rs := RN.blk hb rs
  clear hb
  go_wp2_with fail
  refine (HC2.out _ _ _ rs rn).mono ?_
  rintro e u8 ⟨rfl, hb⟩
  replace F := F.blk hb
  replace d1 := d1.blk hb
  replace rn := RN.blk hb rn
  replace rr := RN.blk hb rr
  replace rs := RN.blk hb rs
  clear hb
  go_wp2_with fail
  refine (HSu.out _).mono ?_
  rintro e u9 ⟨rfl, hb⟩
  replace F := F.blk hb
  replace d1 := d1.blk hb
  replace rn := RN.blk hb rn
  replace rr := RN.blk hb rr
  replace rs := RN.blk hb rs
  clear hb
  go_wp2_with fail
  refine (HE.out _).mono ?_
  rintro e u10 ⟨ve, ee, rfl, re, hb⟩
  replace F := F.blk hb
  replace d1 := d1.blk hb
  replace rn := RN.blk hb rn
  replace rr := RN.blk hb rr
  replace rs := RN.blk hb rs
  clear hb
  go_upto_region 11 with fail
  replace F := F.new (Obj.cells #[.slice pn (N.mny nn) kn] 54 (0, 0))
  have hA := (Below.refl u10.heap.size u10).alloc (Nat.le_refl _) (Obj.cells #[.slice pn (N.mny nn) kn] 54 (0, 0))
  replace d1 := d1.blk hA
  replace rn := RN.blk hA rn
  replace rr := RN.blk hA rr
  replace rs := RN.blk hA rs
  replace re := RN.blk hA re
  clear hA
  generalize u10.alloc (Obj.cells #[.slice pn (N.mny nn) kn] 54 (0, 0)) = z10 at F d1 rn rr rs re ⊢
  generalize u10.heap.size = b16 at F ⊢
  have c16 : z10.cell? ⟨b16, 0, none⟩ = some (.slice pn (N.mny nn) kn) := (N.cells_at (L := [.slice pn (N.mny nn) kn]) (F.get 0 rfl) rfl).1
  go_wp2_with fail
  refine (HIv.out _ _ _ rn rs).mono ?_
  rintro e u11 ⟨vw, rfl, rq, hb⟩
  replace F := F.blk hb
  replace d1 := d1.blk hb
  replace rn := RN.blk hb rn
  replace rr := RN.blk hb rr
  replace rs := RN.blk hb rs
  replace re := RN.blk hb re
  clear hb
  clear c16
  go_wp2_with fail
  refine (HPr.out _).mono ?_
  rintro e u12 ⟨vp, rfl, rp, hb⟩
  replace F := F.blk hb
  replace d1 := d1.blk hb
  replace rn := RN.blk hb rn
  replace rr := RN.blk hb rr
  replace rs := RN.blk hb rs
  replace re := RN.blk hb re
  replace rq := RN.blk hb rq
  clear hb
  obtain ⟨p3, k3, rfl⟩ := rp.sl
  go_upto_region 13 with fail
  replace F := F.new (Obj.cells #[.slice p3 (N.mny pp) k3] 54 (0, 0))
  have hA := (Below.refl u12.heap.size u12).alloc (Nat.le_refl _) (Obj.cells #[.slice p3 (N.mny pp) k3] 54 (0, 0))
  replace d1 := d1.blk hA
  replace rn := RN.blk hA rn
  replace rr := RN.blk hA rr
  replace rs := RN.blk hA rs
  replace re := RN.blk hA re
  replace rq := RN.blk hA rq
  replace rp := RN.blk hA rp
  clear hA
  generalize u12.alloc (Obj.cells #[.slice p3 (N.mny pp) k3] 54 (0, 0)) = z12 at F d1 rn rr rs re rq rp ⊢
  generalize u12.heap.size = b18 at F ⊢
  go_wp2_with fail
  refine (HBs.out _).mono ?_
  rintro e u13 ⟨rfl, hb⟩
  replace F := F.blk hb
  replace d1 := d1.blk hb
  replace rn := RN.blk hb rn
  replace rr := RN.blk hb rr
  replace rs := RN.blk hb rs
  replace re := RN.blk hb re
  replace rq := RN.blk hb rq
  replace rp := RN.blk hb rp
  clear hb
  go_wp2_with fail
  refine (HRg.out _).mono ?_
  rintro e u14 ⟨x9, y9, n9, rfl, o9a, o9b, d9, hb⟩
  replace F := F.blk hb
  replace d1 := d1.blk hb
  replace rn := RN.blk hb rn
  replace rr := RN.blk hb rr
  replace rs := RN.blk hb rs
  replace re := RN.blk hb re
  replace rq := RN.blk hb rq
  replace rp := RN.blk hb rp
  clear hb
  have st1 := pdst1 u14 x9 y9 n9 o9a o9b
  go_upto_region 14 with fail
  replace F := F.new (Obj.cells #[x9, y9, .bool n9] 47 (0, 0))
  have hA := (Below.refl u14.heap.size u14).alloc (Nat.le_refl _) (Obj.cells #[x9, y9, .bool n9] 47 (0, 0))
  replace d1 := d1.blk hA
  replace rn := RN.blk hA rn
  replace rr := RN.blk hA rr
  replace rs := RN.blk hA rs
  replace re := RN.blk hA re
  replace rq := RN.blk hA rq
  replace rp := RN.blk hA rp
  replace d9 := d9.blk hA
  clear hA
  generalize u14.alloc (Obj.cells #[x9, y9, .bool n9] 47 (0, 0)) = z14 at F d1 rn rr rs re rq rp d9 ⊢
  generalize u14.heap.size = b19 at F ⊢
  clear st1
  obtain ⟨L, hL⟩ : ∃ L : List (Nat × Obj), [(b19, Obj.cells #[x9, y9, .bool n9] 47 (0, 0)), (b18, Obj.cells #[.slice p3 (N.mny pp) k3] 54 (0, 0)), (b16, Obj.cells #[.slice pn (N.mny nn) kn] 54 (0, 0)), (b1, Obj.cells #[x1, y1, .bool false] 47 (0, 0))] = L := ⟨_, rfl⟩
  rw [hL] at F
  obtain ⟨K, hK⟩ : ∃ K : World → Prop, K = fun w => Fm W L w ∧ PtD w x1 y1 false q ∧ RN w (.slice pn (N.mny nn) kn) nn ∧ RN w (.slice pr (N.mny r) kr) r ∧ RN w ve E ∧ RN w vw iw ∧ RN w (.slice p3 (N.mny pp) k3) pp ∧ PtD w x9 y9 n9 Gp := ⟨_, rfl⟩
  have HB : Hid (∀ w w', K w → Below w.heap.size w w' → K w') := by rw [Hid, hK]; exact fun w w' ⟨h0, h1, h2, h3, h4, h5, h6, h7⟩ hb => ⟨h0.blk hb, h1.blk hb, RN.blk hb h2, RN.blk hb h3, RN.blk hb h4, RN.blk hb h5, RN.blk hb h6, h7.blk hb⟩
  have HS : Hid (∀ w, K w → K w ∧ w.cell? ⟨b18, 0, none⟩ = some (.slice p3 (N.mny pp) k3) ∧ w.cell? ⟨b16, 0, none⟩ = some (.slice pn (N.mny nn) kn) ∧ (pdLoad (.pointer (some ⟨b19, 0, none⟩))).run Tryz.prog w = .ok (.agg #[x9, y9, .bool n9]) w ∧ (pdLoad (.pointer (some ⟨b1, 0, none⟩))).run Tryz.prog w = .ok (.agg #[x1, y1, .bool false]) w) := by rw [Hid, hK]; exact fun w h => ⟨h, (N.cells_at (L := [.slice p3 (N.mny pp) k3]) (h.1.get 1 (by rw [← hL]; rfl)) rfl).1, (N.cells_at (L := [.slice pn (N.mny nn) kn]) (h.1.get 2 (by rw [← hL]; rfl)) rfl).1, pdLoad_run (h.1.get 0 (by rw [← hL]; rfl)), pdLoad_run (h.1.get 3 (by rw [← hL]; rfl))⟩
  have HEx : Hid (∀ w, K w → Fm W L w ∧ PtD w x1 y1 false q ∧ RN w (.slice pn (N.mny nn) kn) nn ∧ RN w (.slice pr (N.mny r) kr) r ∧ RN w ve E ∧ RN w vw iw ∧ RN w (.slice p3 (N.mny pp) k3) pp ∧ PtD w x9 y9 n9 Gp) := by rw [Hid, hK]; exact fun w h => h
  have HAl : Hid (∀ (w : World) (ob : Obj), K w → K (w.alloc ob)) := fun w ob h => HB.out _ _ h ((Below.refl w.heap.size w).alloc (Nat.le_refl _) ob)
  have HDr : Hid (∀ w : World, K w → K w.drew) := fun w h => HB.out _ _ h (Below.refl w.heap.size w).drew
  have HSt : Hid (∀ (V w : World) (A z : Array Value), K V → K w → w.heap[V.heap.size]? = some (.cells A 47 (0, 0)) → K (w.setRow V.heap.size z)) := by rw [Hid, hK]; exact fun V w A z h' ⟨h0, h1, h2, h3, h4, h5, h6, h7⟩ hb => ⟨Fm.setO h'.1 h0 z, h1.row hb, rn_row h2 hb, rn_row h3 hb, rn_row h4 hb, rn_row h5 hb, rn_row h6 hb, h7.row hb⟩
  have k0 : K z14 := by rw [hK]; exact ⟨F, d1, rn, rr, re, rq, rp, d9⟩
  clear hK F d1 rn rr re rq rp d9 rs
  have hS0 := HS.out _ k0
  have kd := HDr.out _ k0
  go_cut [21] (fun s21 wx => ∃ b x y n, s21 = .pointer (some ⟨b, 0, none⟩) ∧ Fm W ((b, Obj.cells #[x, y, .bool n] 47 (0, 0)) :: L) wx ∧ PtD wx x y n M ∧ RN wx (.slice pn (N.mny nn) kn) nn ∧ RN wx (.slice pr (N.mny r) kr) r)
  case first =>
    go_region_held3 (fun w => K w ∧ w.cell? ⟨b18, 0, none⟩ = some (.slice p3 (N.mny pp) k3) ∧ w.cell? ⟨b16, 0, none⟩ = some (.slice pn (N.mny nn) kn) ∧ (pdLoad (.pointer (some ⟨b19, 0, none⟩))).run Tryz.prog w = .ok (.agg #[x9, y9, .bool n9]) w ∧ (pdLoad (.pointer (some ⟨b1, 0, none⟩))).run Tryz.prog w = .ok (.agg #[x1, y1, .bool false]) w)
      (first | assumption | (apply HS.out; first | assumption | (apply HAl.out; first | assumption | (apply HDr.out; assumption)) | (apply HDr.out; first | assumption | (apply HAl.out; assumption))) | (apply HS.out; refine HSt.out _ _ _ _ ?_ ?_ g1 <;> assumption))
      (first
        | (go_at_call 24; with_reducible refine (HSm.out _ _ _ _ _ _ _ _ (HEx.out _ (by first | assumption | (apply HAl.out; first | assumption | (apply HDr.out; assumption)) | (apply HDr.out; first | assumption | (apply HAl.out; assumption)))).2.2.2.2.2.2.1 (by first | exact d3 | exact PtD.alo d3 _) (by first | exact d5 | exact PtD.alo d5 _) o3a o3b o5a o5b).mono ?_; rintro e w6 ⟨x6, y6, n6, rfl, o6a, o6b, d6, hb6⟩; have k6 := HB.out _ _ (by first | assumption | (apply HAl.out; first | assumption | (apply HDr.out; assumption)) | (apply HDr.out; first | assumption | (apply HAl.out; assumption))) hb6; have hs6 := HS.out _ k6
           first
             | (refine krN hb6 ?_; intro g1)
             | (refine krM hb6 ?_; intro g1)
             | (refine krO g1 hb6 ?_; intro g2; clear g1; have g1 := g2; clear g2)
             | skip
           have st6 := pdst1 w6 x6 y6 n6 o6a o6b
           first
             | (have sg6 := pdStore_run (x' := x6) (y' := y6) (z' := .bool n6) g1 o6a o6b rfl)
             | skip)
        | (go_at_call 32; with_reducible refine (HT2.out _ _ _ _ _ _ (HEx.out _ (by first | assumption | (apply HAl.out; first | assumption | (apply HDr.out; assumption)) | (apply HDr.out; first | assumption | (apply HAl.out; assumption)))).2.2.2.2.2.2.1 (by first | exact r4 | exact RN.alo r4 _) (HEx.out _ (by first | assumption | (apply HAl.out; first | assumption | (apply HDr.out; assumption)) | (apply HDr.out; first | assumption | (apply HAl.out; assumption)))).2.1).mono ?_; rintro e w5 ⟨x5, y5, n5, rfl, o5a, o5b, d5, hb5⟩; have k5 := HB.out _ _ (by first | assumption | (apply HAl.out; first | assumption | (apply HDr.out; assumption)) | (apply HDr.out; first | assumption | (apply HAl.out; assumption))) hb5; have hs5 := HS.out _ k5
           first
             | (refine krN hb5 ?_; intro g1)
             | (refine krM hb5 ?_; intro g1)
             | (refine krO g1 hb5 ?_; intro g2; clear g1; have g1 := g2; clear g2)
             | skip
           first
             | (have qq := PtD.blk hb5 d3; clear d3; have d3 := qq; clear qq)
             | (have qq := PtD.blk hb5 (PtD.alo d3 _); clear d3; have d3 := qq; clear qq))
        | (go_at_call 37; with_reducible refine (HM2.out _ _ _ _ (HEx.out _ (by first | assumption | (apply HAl.out; first | assumption | (apply HDr.out; assumption)) | (apply HDr.out; first | assumption | (apply HAl.out; assumption)))).2.2.1 (HEx.out _ (by first | assumption | (apply HAl.out; first | assumption | (apply HDr.out; assumption)) | (apply HDr.out; first | assumption | (apply HAl.out; assumption)))).2.2.2.1 (HEx.out _ (by first | assumption | (apply HAl.out; first | assumption | (apply HDr.out; assumption)) | (apply HDr.out; first | assumption | (apply HAl.out; assumption)))).2.2.2.2.2.1).mono ?_; rintro e w4 ⟨v4, rfl, r4, hb4⟩; have k4 := HB.out _ _ (by first | assumption | (apply HAl.out; first | assumption | (apply HDr.out; assumption)) | (apply HDr.out; first | assumption | (apply HAl.out; assumption))) hb4; have hs4 := HS.out _ k4
           first
             | (refine krN hb4 ?_; intro g1)
             | (refine krM hb4 ?_; intro g1)
             | (refine krO g1 hb4 ?_; intro g2; clear g1; have g1 := g2; clear g2)
             | skip
           first
             | (have qq := PtD.blk hb4 d3; clear d3; have d3 := qq; clear qq)
             | (have qq := PtD.blk hb4 (PtD.alo d3 _); clear d3; have d3 := qq; clear qq))
        | (go_at_call 32; with_reducible refine (HT1.out _ _ _ _ _ _ (HEx.out _ (by first | assumption | (apply HAl.out; first | assumption | (apply HDr.out; assumption)) | (apply HDr.out; first | assumption | (apply HAl.out; assumption)))).2.2.2.2.2.2.1 (by first | exact r2 | exact RN.alo r2 _) (HEx.out _ (by first | assumption | (apply HAl.out; first | assumption | (apply HDr.out; assumption)) | (apply HDr.out; first | assumption | (apply HAl.out; assumption)))).2.2.2.2.2.2.2).mono ?_; rintro e w3 ⟨x3, y3, n3, rfl, o3a, o3b, d3, hb3⟩; have k3 := HB.out _ _ (by first | assumption | (apply HAl.out; first | assumption | (apply HDr.out; assumption)) | (apply HDr.out; first | assumption | (apply HAl.out; assumption))) hb3; have hs3 := HS.out _ k3
           first
             | (refine krN hb3 ?_; intro g1)
             | (refine krM hb3 ?_; intro g1)
             | (refine krO g1 hb3 ?_; intro g2; clear g1; have g1 := g2; clear g2)
             | skip)
        | (go_at_call 37; with_reducible refine (HM1.out _ _ _ _ (HEx.out _ (by first | assumption | (apply HAl.out; first | assumption | (apply HDr.out; assumption)) | (apply HDr.out; first | assumption | (apply HAl.out; assumption)))).2.2.1 (HEx.out _ (by first | assumption | (apply HAl.out; first | assumption | (apply HDr.out; assumption)) | (apply HDr.out; first | assumption | (apply HAl.out; assumption)))).2.2.2.2.1 (HEx.out _ (by first | assumption | (apply HAl.out; first | assumption | (apply HDr.out; assumption)) | (apply HDr.out; first | assumption | (apply HAl.out; assumption)))).2.2.2.2.2.1).mono ?_; rintro e w2 ⟨v2, rfl, r2, hb2⟩; have k2 := HB.out _ _ (by first | assumption | (apply HAl.out; first | assumption | (apply HDr.out; assumption)) | (apply HDr.out; first | assumption | (apply HAl.out; assumption))) hb2; have hs2 := HS.out _ k2
           first
             | (refine krN hb2 ?_; intro g1)
             | (refine krM hb2 ?_; intro g1)
             | (refine krO g1 hb2 ?_; intro g2; clear g1; have g1 := g2; clear g2)
             | skip))
    all_goals go_wp2
    all_goals go_meet
    all_goals (first | exact ⟨_, x6, y6, n6, rfl, Fm.new (HEx.out _ k6).1 _, d6.alo _, RN.alo (HEx.out _ k6).2.2.1 _, RN.alo (HEx.out _ k6).2.2.2.1 _⟩ | exact ⟨_, x6, y6, n6, rfl, Fm.late (HEx.out _ k5).1 (HEx.out _ k6).1 g1, d6.row g1, rn_row (HEx.out _ k6).2.2.1 g1, rn_row (HEx.out _ k6).2.2.2.1 g1⟩ | exact ⟨_, x6, y6, n6, rfl, Fm.late (HEx.out _ k4).1 (HEx.out _ k6).1 g1, d6.row g1, rn_row (HEx.out _ k6).2.2.1 g1, rn_row (HEx.out _ k6).2.2.2.1 g1⟩ | exact ⟨_, x6, y6, n6, rfl, Fm.late (HEx.out _ k3).1 (HEx.out _ k6).1 g1, d6.row g1, rn_row (HEx.out _ k6).2.2.1 g1, rn_row (HEx.out _ k6).2.2.2.1 g1⟩ | exact ⟨_, x6, y6, n6, rfl, Fm.late (HEx.out _ k2).1 (HEx.out _ k6).1 g1, d6.row g1, rn_row (HEx.out _ k6).2.2.1 g1, rn_row (HEx.out _ k6).2.2.2.1 g1⟩ | exact ⟨_, x6, y6, n6, rfl, Fm.late (HEx.out _ k0).1 (HEx.out _ k6).1 g1, d6.row g1, rn_row (HEx.out _ k6).2.2.1 g1, rn_row (HEx.out _ k6).2.2.2.1 g1⟩)
  case rest =>
    obtain ⟨b21, x, y, n, rfl, F, dM, rn, rr⟩ := hcut
    unfold PtD at dM
    clear hS0 k0 kd HS HEx HB HAl HDr HSt
    rw [← hL] at F
    cases hM : M.o with
    | none =>
      rw [hM] at dM
      have eD := HD0.out hM
      subst eD
      have hn : n = true := dM
      subst hn
      clear HD0 HD1 hM
      have HCe : Hid (∀ w, Fm W ((b21, Obj.cells #[x, y, .bool true] 47 (0, 0)) :: [(b19, Obj.cells #[x9, y9, .bool n9] 47 (0, 0)), (b18, Obj.cells #[.slice p3 (N.mny pp) k3] 54 (0, 0)), (b16, Obj.cells #[.slice pn (N.mny nn) kn] 54 (0, 0)), (b1, Obj.cells #[x1, y1, .bool false] 47 (0, 0))]) w → w.cell? ⟨b21, 2, none⟩ = some (.bool true) ∧ w.cell? ⟨b21, 0, none⟩ = some x ∧ w.cell? ⟨b16, 0, none⟩ = some (.slice pn (N.mny nn) kn)) := fun w h => ⟨(N.cells_at (L := [x, y, .bool true]) (h.get 0 rfl) rfl).1, (N.cells_at (L := [x, y, .bool true]) (h.get 0 rfl) rfl).1, (N.cells_at (L := [.slice pn (N.mny nn) kn]) (h.get 3 rfl) rfl).1⟩
      obtain ⟨q1, q2, q3⟩ := HCe.out _ F
      go_wp2
      go_ret
      exact ⟨rfl, F.bel⟩
    | some t =>
      rw [hM] at dM
      have hDt := HD1.out t hM
      obtain ⟨hn, rx, -⟩ := dM
      subst hn
      clear HD0 HD1 hM
      have HCe : Hid (∀ w, Fm W ((b21, Obj.cells #[x, y, .bool false] 47 (0, 0)) :: [(b19, Obj.cells #[x9, y9, .bool n9] 47 (0, 0)), (b18, Obj.cells #[.slice p3 (N.mny pp) k3] 54 (0, 0)), (b16, Obj.cells #[.slice pn (N.mny nn) kn] 54 (0, 0)), (b1, Obj.cells #[x1, y1, .bool false] 47 (0, 0))]) w → w.cell? ⟨b21, 2, none⟩ = some (.bool false) ∧ w.cell? ⟨b21, 0, none⟩ = some x ∧ w.cell? ⟨b16, 0, none⟩ = some (.slice pn (N.mny nn) kn)) := fun w h => ⟨(N.cells_at (L := [x, y, .bool false]) (h.get 0 rfl) rfl).1, (N.cells_at (L := [x, y, .bool false]) (h.get 0 rfl) rfl).1, (N.cells_at (L := [.slice pn (N.mny nn) kn]) (h.get 3 rfl) rfl).1⟩
      obtain ⟨q1, q2, q3⟩ := HCe.out _ F
      have HMt := Hid.mk (HMd.out · · · t)
      have HCt := Hid.mk (HC3.out · · · t)
      rw [← hDt] at HCt
      clear hDt HMd HC3
      obtain ⟨tx', htx⟩ : ∃ z, t.x.val = z := ⟨_, rfl⟩
      rw [htx] at HMt HCt rx
      clear htx
      generalize tx' % nn = xm at HMt HCt
      go_wp2_with fail
      refine (HMt.out _ _ _ rn rx).mono ?_
      rintro e y1 ⟨v1, rfl, r1, hb⟩
      replace F := F.blk hb
      replace rr := RN.blk hb rr
      clear hb q1 q2 q3 rn rx
      go_wp2_with fail
      refine (HCt.out _ _ _ r1 rr).mono ?_
      rintro e y2 ⟨⟨cc, rfl, hcc⟩, hb⟩
      replace F := F.blk hb
      clear hb
      go_wp2
      go_ret
      exact ⟨by first | rfl | simp [hcc] | simpa using hcc, F.bel⟩
end Go.Proofs.YtpimliebiapnfaaGreatDoor
/- The document's Verify is the program's; CurveVerify. -/
namespace Go.Proofs.YtpimliebiapnfaaGreatDoor
set_option linter.unusedVariables false
set_option linter.unusedSimpArgs false
open Go.RowKit N
attribute [local go_sem ↓] N.loadAt_nat N.storeAt_nat N.build_nat N.build_nat' loadAt_pt storeAt_pt build_pt0 build_pt0' build_pt'
attribute [local go_sem] N.st1 N.st2a N.st2b N.st1d N.st2ad N.st2bd N.natBuild_run ptst1 ptst1d ptBuild0_run build_pt ptBuild_run
attribute [local go_sem ↓] bin_nat bin_pt
theorem cnt_t {a : Nat} (h : cntN a = true) : a ≠ 0 ∧ a < nN := by
  unfold cntN at h
  simp only [Bool.and_eq_true, decide_eq_true_eq] at h
  exact h
theorem rverify_in (pb tx sg : ByteArray) (ht : tx.size ≤ 140737488351232) (W : World) : Calls Tryz.prog 15 #[.string pb, .string tx, .string sg] W fun e w' => e = .returned (.bool (verR pb tx sg)) ∧ Below W.heap.size W w' := by
  cases hp : (ptOf pb).2 with
  | false =>
    rw [show verR pb tx sg = false by unfold verR; rw [if_pos hp]]
    exact rver_np W pb tx sg (Hid.mk (read_no pb hp))
  | true =>
    obtain ⟨q, hq⟩ := ptOf_ex hp
    have hok : (ptOf pb).1.Ok ∧ Rep (ptOf pb).1.jp q.o := by rw [hq]; exact (ptOf_tell q).2
    by_cases hz : (ptOf pb).1 = T3.zero
    · rw [show verR pb tx sg = false by unfold verR; rw [if_neg (by rw [hp]; simp), if_pos hz]]
      have hqo : q.o = none := by
        cases ho : q.o with
        | none => rfl
        | some t =>
          have := hok.2
          rw [ho, hz] at this
          exact absurd fz_0 this.1
      refine rver_nw W pb tx sg (Hid.mk fun w => ?_)
      rw [hq]
      refine (read_yes q w).mono fun e w' ⟨a, b, c, h1, h2, h3, h4, h5⟩ => ?_
      unfold PtD at h4
      rw [hqo] at h4
      have h4' : c = true := h4
      subst h4'
      exact ⟨a, b, h1, h2, h3, h5⟩
    · have hqz : q ≠ Ec.zero := fun e => hz ((rep_zero hok.1).1 (by have := hok.2; rwa [e] at this))
      have HR : Hid (∀ w, Calls Tryz.prog 22 #[.string pb] w fun e w' => ∃ vx vy, e = .returned (.tuple #[.agg #[vx, vy, .bool false], .bool true]) ∧ vx.oneCell' = true ∧ vy.oneCell' = true ∧ PtD w' vx vy false q ∧ Below w.heap.size w w') := fun w => by
        rw [hq]
        refine (read_yes q w).mono fun e w' ⟨a, b, c, h1, h2, h3, h4, h5⟩ => ?_
        cases ho : q.o with
        | none => exact absurd (Ec.ext2 ho) hqz
        | some t =>
          have h6 := h4
          unfold PtD at h6
          rw [ho] at h6
          obtain ⟨rfl, _, _⟩ := h6
          exact ⟨a, b, h1, h2, h3, h4, h5⟩
      by_cases h64 : sg.size = 64
      · cases hc : (cntN (hiN sg) && cntN (loN sg)) with
        | false =>
          rw [show verR pb tx sg = false by unfold verR; rw [if_neg (by rw [hp]; simp), if_neg hz, if_neg (by omega), if_pos hc]]
          refine rver_bad W pb tx sg q HR h64 ?_
          apply Classical.byContradiction
          intro hn
          simp only [not_or, Classical.not_not] at hn
          unfold cntN at hc
          rw [decide_eq_true hn.1, decide_eq_true hn.2.1, decide_eq_true hn.2.2.1, decide_eq_true hn.2.2.2] at hc
          simp at hc
        | true =>
          have hv := verR_p q tx sg hqz h64 hc
          rw [← hq] at hv
          rw [hv]
          simp only [Bool.and_eq_true] at hc
          obtain ⟨h1, h3⟩ := cnt_t hc.1
          obtain ⟨h2, h4⟩ := cnt_t hc.2
          exact rver_ok W pb tx sg q _ HR h64 h1 h2 h3 h4 ht rfl
      · rw [show verR pb tx sg = false by unfold verR; rw [if_neg (by rw [hp]; simp), if_neg hz, if_pos h64]]
        exact rver_len W pb tx sg q HR h64
set_option maxRecDepth 100000 in
set_option maxHeartbeats 2000000 in
theorem verw_gen (W : World) (a b s : ByteArray) (D : Bool) (hG : G.Rk W) (H1 : Hid (∀ w, G.Rk w → Calls Tryz.prog 16 #[.string a, .string b, .string s] w fun e w' => e = .returned (.bool D) ∧ Below w.heap.size w w')) (H2 : Hid (∀ w, Calls Tryz.prog 15 #[.string a, .string b, .string s] w fun e w' => e = .returned (.bool D) ∧ Below w.heap.size w w')) : Calls Tryz.prog 5 #[.string a, .string b, .string s] W fun e w' => e = .returned (.bool true) ∧ Below W.heap.size W w' := by
  have HE := Hid.mk examples_in
  have HG := Hid.mk hG
  clear hG
  have F := Fm.start W
  go_enter Tryz.func5, Tryz.ntmps5
  go_wp2_with fail
  refine (HE.out _).mono ?_
  rintro e u1 ⟨rfl, hb⟩
  replace F := F.blk hb
  clear hb
  go_wp2_with fail
  refine (H2.out _).mono ?_
  rintro e u2 ⟨rfl, hb⟩
  replace F := F.blk hb
  clear hb
  go_wp2_with fail
  refine (H1.out _ (G.Rk.below HG.out F.bel)).mono ?_
  rintro e u3 ⟨rfl, hb⟩
  replace F := F.blk hb
  clear hb
  go_wp2
  go_ret
  exact ⟨by first | rfl | simp, F.bel⟩
theorem curveverify_walk (a : ByteArray) (ha : a.size ≤ 140737488351232) (b : ByteArray) (hb : b.size ≤ 140737488351232) (s : ByteArray) (hs : s.size ≤ 140737488351232) (W : World) (hG : G.Rk W) : Calls Tryz.prog 5 #[.string a, .string b, .string s] W fun e w' => e = .returned (.bool true) ∧ Below W.heap.size W w' :=
  verw_gen W a b s (verR a b s) hG (Hid.mk fun w h => verify_in a b s (by omega) w h) (Hid.mk fun w => rverify_in a b s hb w)
end Go.Proofs.YtpimliebiapnfaaGreatDoor