/- Texts of this proof, joined: ZSig, ZSnd. -/
import Derived.Test.YtnchoogjjnjikaaGreatDoorJ20
import Derived.Test.YtnchoogjjnjikaaGreatDoorJ10
import Derived.Test.YtnchoogjjnjikaaGreatDoorJ18
import Derived.Test.YtnchoogjjnjikaaGreatDoorJ17
/- signedBy. -/
namespace Go.Proofs.YtnchoogjjnjikaaGreatDoor
set_option linter.unusedVariables false
set_option linter.unusedSimpArgs false
open Go.RowKit
attribute [local go_sem ↓] storeAt_lk loadAt_lk
attribute [local go_sem ↓] storeAt_st loadAt_st
def stC : List (ByteArray × Nat) → List Value
  | [] => []
  | (s, g) :: r => .string s :: .int .i64 47 :: .int .i64 1 :: .int .i64 0 :: .slice (some ⟨g, 0, none⟩) 1 1 :: .slice none 0 0 :: stC r
theorem stC_len : ∀ l, (stC l).length = l.length * 6
  | [] => rfl
  | (s, g) :: r => by rw [stC]; simp only [List.length_cons]; rw [stC_len r]; omega
theorem stC_app : ∀ (l m : List (ByteArray × Nat)), stC (l ++ m) = stC l ++ stC m
  | [], _ => rfl
  | (s, g) :: r, m => by rw [List.cons_append, stC, stC, stC_app r m]; rfl
theorem stC_at : ∀ (l : List (ByteArray × Nat)) (j : Nat) (h : j < l.length), (stC l)[j * 6]? = some (.string l[j].1) ∧ (stC l)[j * 6 + 1]? = some (.int .i64 47) ∧ (stC l)[j * 6 + 2]? = some (.int .i64 1) ∧ (stC l)[j * 6 + 3]? = some (.int .i64 0) ∧ (stC l)[j * 6 + 4]? = some (.slice (some ⟨l[j].2, 0, none⟩) 1 1) ∧ (stC l)[j * 6 + 5]? = some (.slice none 0 0)
  | (s, g) :: r, 0, _ => ⟨rfl, rfl, rfl, rfl, rfl, rfl⟩
  | (s, g) :: r, j + 1, h => by
    have := stC_at r j (by simpa using h)
    rw [stC]
    simp only [List.getElem_cons_succ]
    rw [show (j + 1) * 6 = j * 6 + 1 + 1 + 1 + 1 + 1 + 1 by omega]
    simpa using this
def StR (W : World) (g : Gd) (r : ByteArray × Nat) : Prop := r.1 = nm g.k.o ∧ W.heap[r.2]? = some (.cells #[.string g.d] 9 (0, 0))
theorem StR.blk {W W' : World} {g : Gd} {r : ByteArray × Nat} (h : StR W g r) (hb : Below W.heap.size W W') : StR W' g r := ⟨h.1, (hb.block r.2 (box_lt h.2)).trans h.2⟩
theorem ty_ne6 : (9 : TypeId) ≠ 40 := by decide
theorem StR.grown {z w4 : World} {tmp : Obj} {u : Value} {n₀ n : Nat} {xs : List Value} {g : Gd} {r : ByteArray × Nat} (h : StR z g r) (hrow : z.ownsRow n₀ 40 6 u n xs) (hg : (z.alloc tmp).grownBy w4 u.ownBlock) : StR w4 g r := by
  refine ⟨h.1, ?_⟩
  have hlt := box_lt h.2
  have hal : (z.alloc tmp).heap[r.2]? = z.heap[r.2]? := ((Below.refl z.heap.size z).alloc (Nat.le_refl _) tmp).block r.2 hlt
  refine (hg.block r.2 (by simp; omega) fun e => ?_).trans (hal.trans h.2)
  rcases hrow.2 with ⟨rfl, _⟩ | ⟨g', cap, cur, rfl, _, hg', _⟩
  · simp [Value.ownBlock] at e
  · simp only [Value.ownBlock, Option.some.injEq] at e
    subst e
    rw [h.2] at hg'
    simp only [Option.some.injEq, Obj.cells.injEq] at hg'
    exact ty_ne6 hg'.2.1
theorem stAt_of {W : World} {n₀ : Nat} {v : Value} {l : List Gd} {rows : List (ByteArray × Nat)} (h : W.ownsRow n₀ 40 6 v l.length (stC rows)) (hl : rows.length = l.length) (hr : ∀ j (h1 : j < rows.length) (h2 : j < l.length), StR W l[j] rows[j]) : StAt W v l := by
  rcases h.2 with ⟨rfl, h0⟩ | ⟨g, cap, cur, rfl, _, hg, _, _, _, ht⟩
  · exact ⟨none, 0, by rw [h0], fun j hj => by omega⟩
  · refine ⟨_, cap, rfl, fun j hj => ?_⟩
    have hj' : j < rows.length := by omega
    obtain ⟨c0, c1, c2, c3, c4, c5⟩ := stC_at rows j hj'
    obtain ⟨r1, r2⟩ := hr j hj' hj
    have hcell : ∀ i u, (stC rows)[i]? = some u → W.cell? ⟨g, i, none⟩ = some u := fun i u hu => by
      have hlt : i < l.length * 6 := by
        have := (List.getElem?_eq_some_iff.1 hu).1
        rw [stC_len] at this
        omega
      unfold World.cell?
      simp only [hg]
      rw [← ht] at hu
      rw [List.getElem?_take_of_lt hlt] at hu
      simpa using hu
    rw [r1] at c0
    exact ⟨g, rows[j].2, 1, rfl, box_lt hg, hcell _ _ c0, hcell _ _ c1, hcell _ _ c2, hcell _ _ c3, hcell _ _ c4, hcell _ _ c5, box_lt r2, (cells_at (j := 0) r2 rfl).1⟩
theorem six_new (w : World) (a b c d e f : Value) (t : TypeId) : ∀ j u, [a, b, c, d, e, f][j]? = some u → (w.alloc (.cells #[a, b, c, d, e, f] t)).cell? ((⟨w.heap.size, 0, none⟩ : Addr).add j) = some u := by
  intro j u hj
  rw [add_at']
  exact (cells_at (heap_new w (.cells #[a, b, c, d, e, f] t)) (by simpa using hj)).1
theorem info_st : (Tryz.prog.info? 40).map (fun i => (i.zero, i.size, i.bytes)) = some (some (.agg #[.string ⟨#[]⟩, .int .i64 0, .int .i64 0, .int .i64 0, .slice none 0 0, .slice none 0 0]), 6, 88) := by kernel_rfl
noncomputable def natsOf (l : List Int) : List Nat := l.map Int.toNat
noncomputable def ringG (rs : List (N3 × List Int)) : List Gd := rs.mapIdx fun i r => gdOf r.1 ((rs[(i + 1) % rs.length]?).getD r).1 (natsOf r.2)
theorem ringG_len (rs : List (N3 × List Int)) : (ringG rs).length = rs.length := by simp [ringG]
theorem CrOk.nats {rs : List (N3 × List Int)} (h : CrOk rs) (r : N3 × List Int) (hr : r ∈ rs) : TyOk (natsOf r.2) ∧ r.2 = ints (natsOf r.2) := by
  have key : ∃ t : List Nat, TyOk t ∧ r.2 = ints t := by
    rcases h.tys r hr with q | q
    · exact ty_of_own q
    · rw [q]; exact ⟨[2, 6, 47], ty_first⟩
  obtain ⟨t, h1, h2⟩ := key
  have : natsOf r.2 = t := by
    rw [h2]; unfold natsOf ints
    rw [List.map_map]
    exact (List.map_congr_left (g := id) (fun x _ => Int.toNat_natCast x)).trans (List.map_id _)
  rw [this]
  exact ⟨h1, h2⟩
theorem ringG_at (rs : List (N3 × List Int)) (i : Nat) (h : i < rs.length) : (ringG rs)[i]'(by rw [ringG_len]; exact h) = gdOf rs[i].1 (rs[(i + 1) % rs.length]'(Nat.mod_lt _ (by omega))).1 (natsOf rs[i].2) := by
  simp only [ringG, List.getElem_mapIdx]
  rw [List.getElem?_eq_getElem (Nat.mod_lt _ (by omega))]; rfl
theorem CrOk.ringG_k {rs : List (N3 × List Int)} (h : CrOk rs) : (ringG rs).map (·.k) = ringK rs := by
  refine List.ext_getElem (by rw [List.length_map, ringG_len, ringK_len]) fun i h1 h2 => ?_
  rw [ringK_len] at h2
  rw [List.getElem_map, ringG_at rs i h2, ringK_at rs i h2]
  have := (h.nats rs[i] (List.getElem_mem _)).2
  simp only [gdOf]
  rw [← this]
theorem CrOk.ringG_ok {rs : List (N3 × List Int)} (h : CrOk rs) : ∀ g ∈ ringG rs, g.Ok := fun g hg => by
  obtain ⟨i, hi, rfl⟩ := List.getElem_of_mem hg
  rw [ringG_len] at hi
  rw [ringG_at rs i hi]
  exact gd_ok _ _ (h.nms _ (List.getElem_mem _)) (h.nms _ (List.getElem_mem _)) _ (h.nats _ (List.getElem_mem _)).1
theorem CrOk.ringG_und {rs : List (N3 × List Int)} (h : CrOk rs) : ∀ g ∈ ringG rs, undB g.k.o exX = true := fun g hg => by
  obtain ⟨i, hi, rfl⟩ := List.getElem_of_mem hg
  rw [ringG_len] at hi
  rw [ringG_at rs i hi]
  show undB rs[i].1 exX = true
  rcases h.ring.und _ (List.getElem_mem hi) with q | ⟨m, q⟩
  · rw [q]; decide +kernel
  · rw [q, undB_iff]
    exact ⟨[m.map lowB], rfl⟩
theorem CrOk.ofNsec {rs : List (N3 × List Int)} (h : CrOk rs) (i : Nat) (hi : i < rs.length) (v : Value) (W : World) (hv : IntsAt W v rs[i].2) :
    Calls Tryz.prog 18 #[.agg #[.string (nm (rs[(i + 1) % rs.length]'(Nat.mod_lt _ (by omega))).1), v]] W fun e w' => e = .returned (.tuple #[.string ((ringG rs)[i]'(by rw [ringG_len]; exact hi)).d, .int .i64 0]) ∧ Below W.heap.size W w' := by
  obtain ⟨h1, h2⟩ := h.nats rs[i] (List.getElem_mem _)
  have hx := h.nms _ (List.getElem_mem (Nat.mod_lt (i + 1) (show 0 < rs.length by omega)))
  obtain ⟨j1, j2⟩ := nsec_join _ hx _ h1
  have hsz : (nm (rs[(i + 1) % rs.length]'(Nat.mod_lt _ (by omega))).1).size ≤ 2000 := by rw [nm_size]; have := hx.len; omega
  have := ofNsec_in (nm (rs[(i + 1) % rs.length]'(Nat.mod_lt _ (by omega))).1) v (ints (natsOf rs[i].2)) (encT (natsOf rs[i].2)) hsz (by
    have := rise_count _ (-1) h1.1 h1.2 (by omega) (by omega)
    unfold ints; rw [List.length_map]; omega) (encR_rise h1.1) W (by rw [← h2]; exact hv)
  rw [j1, j2] at this
  rw [ringG_at rs i hi]
  exact this
theorem six_at {z : World} {n : Nat} (h : z.heap.size = n) (a b c d e f : Value) (t : TypeId) : ∀ j u, [a, b, c, d, e, f][j]? = some u → (z.alloc (.cells #[a, b, c, d, e, f] t)).cell? ((⟨n, 0, none⟩ : Addr).add j) = some u := by
  subst h
  exact six_new z a b c d e f t
theorem cr_nm {W : World} {g : Nat} {us : List Value} {rs : List (N3 × List Int)} (h : RowC W g us) (hu : us = nmsV (rs.map Prod.fst)) (j : Nat) (hj : j < rs.length) (w : World) (hb : Below W.heap.size W w) : w.cell? ⟨g, j, none⟩ = some (.string (nm rs[j].1)) :=
  (h.blk hb).2 j _ (by rw [hu]; simp [nmsV, hj])
theorem cr_ty {W : World} {g : Nat} {us : List Value} {rs : List (N3 × List Int)} (h : RowC W g us) (hu : TyVs W us (rs.map Prod.snd)) (j : Nat) (hj : j < rs.length) : ∃ q c, (∀ w, Below W.heap.size W w → w.cell? ⟨g, j, none⟩ = some (.slice q rs[j].2.length c) ∧ IntsAt w (.slice q rs[j].2.length c) rs[j].2) := by
  have h1 : j < us.length := by rw [hu.1, List.length_map]; exact hj
  have h2 := hu.2 j h1 (by simpa using hj)
  rw [List.getElem_map] at h2
  obtain ⟨q, c, hv, _⟩ := id h2
  refine ⟨q, c, fun w hb => ⟨?_, ?_⟩⟩
  · rw [← hv]; exact (h.blk hb).2 j _ (List.getElem?_eq_getElem h1)
  · rw [← hv]; exact h2.below hb
set_option maxRecDepth 100000 in
set_option maxHeartbeats 4000000 in
theorem signed_in (rs : List (N3 × List Int)) (hcr : CrOk rs) (hlen : rs.length ≤ 13) (v4 v5 : Value) (W : World) (h4 : NmsAt W v4 (rs.map Prod.fst)) (h5 : TysAt W v5 (rs.map Prod.snd)) :
    Calls Tryz.prog 6 #[v4, v5] W fun e w' => (∃ sv, e = .returned sv ∧ StAt w' sv (ringG rs)) ∧ Below W.heap.size W w' := by
  obtain ⟨r, hr⟩ : ∃ r, rs.length = r := ⟨_, rfl⟩
  have HR := Hid.mk hr
  obtain ⟨g4, cap4, ns, rfl, hn4, hx4, R4, HNs, HA, hg4⟩ := h4.form hr
  obtain ⟨g5, cap5, ds, rfl, hn5, hx5, R5, HTs, HD, hg5⟩ := h5.form hr
  have HC4 := Hid.mk (cr_nm R4 HNs.out)
  have HC5 := Hid.mk (cr_ty R5 HTs.out)
  have HOf := Hid.mk hcr.ofNsec
  have HGl := Hid.mk (ringG_len rs)
  have HEnd : Hid (∀ (w : World) (sv : Value) (rows : List (ByteArray × Nat)), rows.length = r → w.ownsRow W.heap.size 40 6 sv r (stC rows) → (∀ j (h1 : j < rows.length) (h2 : j < (ringG rs).length), StR w (ringG rs)[j] rows[j]) → StAt w sv (ringG rs)) := fun w sv rows h1 h2 h3 => stAt_of (n₀ := W.heap.size) (by rw [ringG_len, hr]; exact h2) (by rw [ringG_len, hr]; exact h1) h3
  rw [hr] at hlen
  obtain ⟨i0, hi0, hz0, hz1, hz2⟩ := info_parts info_st
  clear hr R4 R5 HNs HTs HA HD h4 h5 hcr
  unfold maxLen at hx4 hx5
  go_enter Tryz.func6, Tryz.ntmps6
  go_wp2_with fail
  go_loopw [5, 6] (fun ov iv wr => ∃ (i : Nat) (rows : List (ByteArray × Nat)), i ≤ r ∧ iv = .int .i64 (i : Int) ∧ Hid (rows.length = i) ∧ Hid (wr.ownsRow W.heap.size 40 6 ov i (stC rows)) ∧ Hid (∀ j (h1 : j < rows.length) (h2 : j < (ringG rs).length), StR wr (ringG rs)[j] rows[j]) ∧ Below W.heap.size W wr) (fun _ iv _ => r - (intOf iv).toNat)
  case atStart => exact ⟨0, [], Nat.zero_le _, rfl, rfl, World.ownsRow_nil _ _ _ _, fun j h1 => absurd h1 (Nat.not_lt_zero _), Below.refl _ _⟩
  case round =>
    obtain ⟨i, rows, hi, rfl, hrl, hrow, hst, hbl⟩ := hrel
    by_cases hlt : i < r
    · have hil : i < rs.length := by rw [HR.out]; exact hlt
      have hjl : (i + 1) % rs.length < rs.length := Nat.mod_lt _ (by omega)
      obtain ⟨q, c, hq⟩ := HC5.out i hil
      have HQ := Hid.mk hq
      have HN := Hid.mk (HC4.out ((i + 1) % rs.length) hjl)
      have HI := Hid.mk (HC4.out i hil)
      have HO := Hid.mk (HOf.out i hil)
      have HDt : Hid (∃ h, (ringG rs)[i]'h = (ringG rs)[i]'(by rw [HGl.out]; exact hil)) := ⟨by rw [HGl.out]; exact hil, rfl⟩
      obtain ⟨gd, hgd⟩ : ∃ gd, (ringG rs)[i]'(by rw [HGl.out]; exact hil) = gd := ⟨_, rfl⟩
      rw [hgd] at HO HDt
      have hgo : Hid (nm rs[i].1 = nm gd.k.o) := by rw [Hid, ← hgd, ringG_at rs i hil]; rfl
      obtain ⟨nI, hnI⟩ : ∃ nI, nm rs[i].1 = nI := ⟨_, rfl⟩
      obtain ⟨nX, hnX⟩ : ∃ nX, nm (rs[(i + 1) % rs.length]'hjl).1 = nX := ⟨_, rfl⟩
      rw [hnI] at HI hgo
      rw [hnX] at HN HO
      obtain ⟨tl, htl⟩ : ∃ tl, rs[i].2 = tl := ⟨_, rfl⟩
      rw [htl] at HQ HO
      obtain ⟨tn, htn⟩ : ∃ tn, tl.length = tn := ⟨_, rfl⟩
      rw [htn] at HQ
      obtain ⟨d, hd⟩ : ∃ d, gd.d = d := ⟨_, rfl⟩
      rw [hd] at HO
      rw [HR.out] at HN
      have hjr : (i + 1) % r < r := Nat.mod_lt _ (by omega)
      obtain ⟨x, hx⟩ : ∃ x, (i + 1) % r = x := ⟨_, rfl⟩
      rw [hx] at HN hjr
      have e1 : ((i : Int) + 1).tmod (r : Int) = (x : Int) := by
        rw [Int.tmod_eq_emod_of_nonneg (by omega), ← hx]; simp
      have e2 : IntKind.i64.wrap ((i : Int) + 1) = (i : Int) + 1 := by rw [IntKind.wrap_i64]; omega
      have e3 : ((r : Int) == 0) = false := by rw [beq_eq_false_iff_ne]; omega
      have e4 : ¬ (r : Int) = 0 := by omega
      have e5 : ¬ r = 0 := by omega
      have e6 : (r == 0) = false := by rw [beq_eq_false_iff_ne]; omega
      have e7 : IntKind.i64.wrap (x : Int) = (x : Int) := by rw [IntKind.wrap_i64]; omega
      have e8 : IntKind.i64.wrap (((i : Int) + 1).tmod (r : Int)) = (x : Int) := by rw [e1]; exact e7
      have i1 : (i : Int) < (r : Int) := by omega
      have i2 : (x : Int) < (r : Int) := by omega
      have HD := Hid.mk hd
      clear hil hjl hq hgd hnI hnX htl htn hd hx
      have hbW := hbl.size
      have KS : Hid (∀ w, Below wr.heap.size wr w → Below wr.heap.size wr w ∧ w.cell? ⟨g4, x, none⟩ = some (.string nX) ∧ w.cell? ⟨g4, i, none⟩ = some (.string nI) ∧ w.cell? ⟨g5, i, none⟩ = some (.slice q tn c)) := fun w hb => ⟨hb, HN.out w (bthen hbl hb), HI.out w (bthen hbl hb), (HQ.out w (bthen hbl hb)).1⟩
      have HO' : Hid (∀ w, Below wr.heap.size wr w → Calls Tryz.prog 18 #[.agg #[.string nX, .slice q tn c]] w fun e w' => e = .returned (.tuple #[.string d, .int .i64 0]) ∧ Below w.heap.size w w') := fun w hb => HO.out _ w (HQ.out w (bthen hbl hb)).2
      clear HN HI HQ HO
      go_upto_region 5 with fail
      have hS0 := KS.out _ (Below.refl wr.heap.size wr)
      have hSd := KS.out _ (Below.refl wr.heap.size wr).drew
      have hBr := Below.refl wr.heap.size wr
      have hBd := hBr.drew
      go_region_held3 (fun w => Below wr.heap.size wr w ∧ w.cell? ⟨g4, x, none⟩ = some (.string nX) ∧ w.cell? ⟨g4, i, none⟩ = some (.string nI) ∧ w.cell? ⟨g5, i, none⟩ = some (.slice q tn c))
        (first | assumption | (apply KS.out; first | assumption | (apply Below.drew; assumption)))
        (first | (go_at_call 18; with_reducible refine (HO'.out _ (by first | assumption | (apply Below.drew; assumption))).mono ?_; rintro e w2 ⟨rfl, hb2⟩; have F2 : Below wr.heap.size wr w2 := bthen (by first | assumption | (apply Below.drew; assumption)) hb2; have hs2 := KS.out _ F2))
      obtain ⟨_, c1, c2, c3⟩ := hs2
      clear hS0 hSd hBr hBd
      have hrow2 := row_blk hrow.out F2
      have hB2 := bthen hbl F2
      have hA := (Below.refl w2.heap.size w2).alloc (Nat.le_refl _) (.cells #[.string d] 9)
      have hrow3 := row_blk hrow2 hA
      have hB3 := bthen hB2 hA
      have hst3 : Hid (∀ j (h1 : j < rows.length) (h2 : j < (ringG rs).length), StR (w2.alloc (.cells #[.string d] 9)) (ringG rs)[j] rows[j]) := fun j h1 h2 => ((hst.out j h1 h2).blk F2).blk hA
      have hnew : Hid (StR (w2.alloc (.cells #[.string d] 9)) gd (nI, w2.heap.size)) := ⟨hgo.out, by rw [HD.out]; exact heap_new _ _⟩
      have hsz3 := hB3.size
      have hsz2 := hB2.size
      clear hrow hst hrow2 hA
      go_wp2_with (at_builtin; refine wpList_append_own _ rfl _ _ 28 rfl W.heap.size 40 i0 (.agg #[.string ⟨#[]⟩, .int .i64 0, .int .i64 0, .int .i64 0, .slice none 0 0, .slice none 0 0]) 6 88 Tryz.underlying28 hi0 hz0 hz1 hz2 rfl (by decide) _ _ _ rfl (hrow3.alloc _) ⟨w2.heap.size + 1, 0, none⟩ 1 1 [.string nI, .int .i64 47, .int .i64 1, .int .i64 0, .slice (some ⟨w2.heap.size, 0, none⟩) 1 1, .slice none 0 0] rfl rfl (six_at (by simp) _ _ _ _ _ _ _) (by simp [Value.oneCell']) (by unfold maxLen; omega) (by omega) (by simp; omega) ?_; intro v1 w4 hown4 hgrow4 _)
      have hgr : ((w2.alloc (.cells #[.string d] 9)).alloc (.cells #[.string nI, .int .i64 47, .int .i64 1, .int .i64 0, .slice (some ⟨w2.heap.size, 0, none⟩) 1 1, .slice none 0 0] 40)).grownBy w4 u5.ownBlock := hgrow4
      have hB4 : Below W.heap.size W w4 := (hB3.alloc hsz3 _).grown hgr (by simp; omega) (rowBaseV hrow3)
      have HO4 : Hid (w4.ownsRow W.heap.size 40 6 v1 (i + 1) (stC (rows ++ [(nI, w2.heap.size)]))) := by rw [Hid, stC_app]; exact hown4
      have HK4 : Hid (∀ j (h1 : j < (rows ++ [(nI, w2.heap.size)]).length) (h2 : j < (ringG rs).length), StR w4 (ringG rs)[j] (rows ++ [(nI, w2.heap.size)])[j]) := fun j h1 h2 => by
        by_cases hj : j < rows.length
        · rw [List.getElem_append_left hj]
          exact (hst3.out j hj h2).grown hrow3 hgr
        · have hji : j = i := by
            have := hrl.out
            simp only [List.length_append, List.length_cons, List.length_nil] at h1
            omega
          subst hji
          obtain ⟨h3, h4⟩ := HDt.out
          rw [List.getElem_append_right (by have := hrl.out; omega)]
          simp only [hrl.out, Nat.sub_self, List.getElem_cons_zero]
          rw [h4]
          exact hnew.out.grown hrow3 hgr
      have HR4 : Hid ((rows ++ [(nI, w2.heap.size)]).length = i + 1) := by rw [Hid, List.length_append, hrl.out]; rfl
      clear hgr hgrow4 hown4 hst3 hrow3 hnew hB3 hB2
      go_roundw
      case rel => exact ⟨i + 1, _, by omega, by go_num, HR4, HO4, HK4, hB4⟩
      case measure => simp [intOf]; omega
    · obtain rfl : i = r := by omega
      have hE := Hid.mk (HEnd.out wr _ rows hrl.out hrow.out hst.out)
      have i1 : ¬ (i : Int) < (i : Int) := by omega
      go_wp2
      go_ret
      exact ⟨⟨_, rfl, hE.out⟩, hbl⟩
end Go.Proofs.YtnchoogjjnjikaaGreatDoor
/- DenialSound. -/
namespace Go.Proofs.YtnchoogjjnjikaaGreatDoor
set_option linter.unusedVariables false
set_option linter.unusedSimpArgs false
open Go.RowKit
attribute [local go_sem ↓] storeAt_lk loadAt_lk
structure Asks (rs : List (N3 × List Int)) (sv : Value) (V : World) : Prop where
  nam : ∀ i (hi : i < rs.length) w, Below V.heap.size V w → Calls Tryz.prog 8 #[sv, .string (nm rs[i].1), .string ⟨#[1, 120, 0]⟩] w fun e w' => e = .returned (.int .i64 0) ∧ Below w.heap.size w w'
  cut : ∀ i (hi : i < rs.length) w, Below V.heap.size V w → Calls Tryz.prog 9 #[sv, .string (nm rs[i].1), .string ⟨#[1, 120, 0]⟩] w fun e w' => e = .returned (.int .i64 0) ∧ Below w.heap.size w w'
  typ : ∀ i (hi : i < rs.length) (kd : Int), 0 ≤ kd → kd ≤ 65535 → (hasB rs[i].2 kd = true ∨ kd ≠ 43) → ∀ w, Below V.heap.size V w → Calls Tryz.prog 10 #[sv, .string (nm rs[i].1), .int .i64 kd, .string ⟨#[1, 120, 0]⟩] w fun e w' => e = .returned (.int .i64 (if hasB rs[i].2 kd = true ∨ hasB rs[i].2 5 = true then 0 else 1)) ∧ Below w.heap.size w w'
  new : ∀ l, OkN (l :: exX) → (∀ r ∈ rs, eqB r.1 (l :: exX) = false) → ∀ w, Below V.heap.size V w → Calls Tryz.prog 8 #[sv, .string (nm (l :: exX)), .string ⟨#[1, 120, 0]⟩] w fun e w' => e = .returned (.int .i64 (if wildB rs = true then 0 else 1)) ∧ Below w.heap.size w w'
theorem und_x {n : N3} (h : n = exX ∨ ∃ l, n = l :: exX) : undB n exX = true := by
  rcases h with rfl | ⟨l, rfl⟩
  · decide +kernel
  · rw [undB_iff]; exact ⟨[l.map lowB], rfl⟩
theorem ne_x (l : List UInt8) : eqB (l :: exX) exX = false := by
  unfold eqB
  exact decide_eq_false fun h => by
    have := congrArg List.length h
    simp [lowN, exX] at this
theorem asks_of {rs : List (N3 × List Int)} (h : CrOk rs) (hl : rs.length ≤ 13) {sv : Value} {V : World} (hs : StAt V sv (ringG rs)) : Asks rs sv V := by
  have hlen : (ringG rs).length ≤ 100000 := by rw [ringG_len]; omega
  have h0 : ringG rs ≠ [] := fun e => by
    have h1 := ringG_len rs
    rw [e, List.length_nil] at h1
    have := h.ring.pos
    omega
  have hv : sv.oneCell' = true := by obtain ⟨q, c, e, _⟩ := hs; rw [e]; rfl
  have hx : nm exX = ⟨#[1, 120, 0]⟩ := by decide +kernel
  refine ⟨fun i hi w hb => ?_, fun i hi w hb => ?_, fun i hi kd k0 k1 k2 w hb => ?_, fun l ho hn w hb => ?_⟩
  · have := name_in exX rs[i].1 (h.nms _ (List.getElem_mem _)) (und_x (h.ring.und _ (List.getElem_mem _))) (ringG rs) okX hlen h0 h.ringG_ok h.ringG_und sv w (hs.blk hb)
    rwa [h.ringG_k, h.ring.name_there i hi, hx] at this
  · rcases h.ring.und _ (List.getElem_mem hi) with q | ⟨m, q⟩
    · rw [q]
      have := cut_apex exX okX sv w hv
      rwa [hx] at this ⊢
    · have := cut_in exX rs[i].1 (h.nms _ (List.getElem_mem _)) (und_x (h.ring.und _ (List.getElem_mem _))) (by rw [q]; exact ne_x m) (ringG rs) okX hlen h0 h.ringG_ok h.ringG_und sv w (hs.blk hb)
      rwa [h.ringG_k, h.ring.keys_there i hi, hx] at this
  · have := type_in exX rs[i].1 kd ⟨k0, k1⟩ (h.nms _ (List.getElem_mem _)) (und_x (h.ring.und _ (List.getElem_mem _))) (ringG rs) okX hlen h0 h.ringG_ok h.ringG_und sv w (hs.blk hb)
    rwa [h.ringG_k, h.ring.type_there i hi kd k2, hx] at this
  · have := name_in exX (l :: exX) ho (und_x (Or.inr ⟨l, rfl⟩)) (ringG rs) okX hlen h0 h.ringG_ok h.ringG_und sv w (hs.blk hb)
    rwa [h.ringG_k, h.ring.name_not l hn, hx] at this
theorem CrOk.rng {rs : List (N3 × List Int)} (h : CrOk rs) (i : Nat) (hi : i < rs.length) : rs[i].2.length ≤ 1000000 ∧ ∀ k (hk : k < rs[i].2.length), 0 ≤ rs[i].2[k] ∧ rs[i].2[k] ≤ 65535 ∧ hasB rs[i].2 rs[i].2[k] = true := by
  have hin : ∀ k (hk : k < rs[i].2.length), hasB rs[i].2 rs[i].2[k] = true := fun k hk => by unfold hasB; exact decide_eq_true (List.getElem_mem _)
  rcases h.tys _ (List.getElem_mem hi) with q | q
  · refine ⟨Nat.le_trans q.len (by omega), fun k hk => ?_⟩
    have := q.rng _ (List.getElem_mem hk)
    exact ⟨by omega, by omega, hin k hk⟩
  · refine ⟨by rw [q]; decide, fun k hk => ?_⟩
    have hm : ∀ z ∈ rs[i].2, z = 2 ∨ z = 6 ∨ z = 47 := by rw [q]; simp
    have hm' := hm _ (List.getElem_mem hk)
    exact ⟨by omega, by omega, hin k hk⟩
def wildT (rs : List (N3 × List Int)) (i : Nat) : Bool := wildB (rs.take i)
theorem wildT_zero (rs : List (N3 × List Int)) : wildT rs 0 = false := by simp [wildT, wildB]
theorem wildT_all (rs : List (N3 × List Int)) : wildT rs rs.length = wildB rs := by simp [wildT]
theorem wildT_succ (rs : List (N3 × List Int)) (i : Nat) (hi : i < rs.length) : wildT rs (i + 1) = (wildT rs i || eqB rs[i].1 ([42] :: exX)) := by
  unfold wildT wildB
  rw [List.take_add_one, List.getElem?_eq_getElem hi]
  simp only [Option.toList_some, List.any_append, List.any_cons, List.any_nil, Bool.or_false]
theorem okStar : OkN ([42] :: exX) := ⟨by decide, by decide⟩
theorem nmStar : nm ([42] :: exX) = ⟨#[1, 42, 1, 120, 0]⟩ := by decide +kernel
set_option maxRecDepth 100000 in
set_option maxHeartbeats 8000000 in
theorem sound_walk (a0 : Option Addr) (cap : Nat) (ls : List (ByteArray × List Int)) (hmx : ∀ p ∈ ls, p.1.size ≤ maxLen ∧ p.2.length ≤ maxLen) (hsh : ls.length ≤ cap ∧ cap ≤ maxLen ∧ (a0 = none → cap = 0)) (lb : ByteArray) (hlb : lb.size ≤ 140737488355328) (kd : Int) (hkd : (Lit.int .i64 kd).wf = true) (W : World) (hg : OnesAt W a0 ls) (hG : ZG W) :
    Calls Tryz.prog 3 #[.slice a0 ls.length cap, .string lb, .int .i64 kd] W fun e w' => e = .returned (.bool true) ∧ Below W.heap.size W w' := by
  have H0 := Hid.mk (examples9_in W)
  have H1 := Hid.mk (chain_in ls a0 cap)
  have HG := Hid.mk hg
  have HX := Hid.mk hmx
  obtain ⟨n0, hn0⟩ : ∃ n0, ls.length = n0 := ⟨_, rfl⟩
  have HL0 : Hid (ls.length ≤ maxLen) := Nat.le_trans hsh.1 hsh.2.1
  have HC1 : Hid (∀ w, Below W.heap.size W w → Calls Tryz.prog 5 #[.slice a0 n0 cap] w fun e w' => (∃ v4 v5, e = .returned (.tuple #[v4, v5]) ∧ ∃ rs, CrOk rs ∧ rs.length ≤ 13 ∧ NmsAt w' v4 (rs.map Prod.fst) ∧ TysAt w' v5 (rs.map Prod.snd)) ∧ Below w.heap.size w w') := fun w hb => by
    have := H1.out w (HG.out.below hb) HX.out HL0.out
    rwa [hn0] at this
  rw [hn0]
  clear H1 HG HX hg hmx hsh HL0 hn0
  go_enter Tryz.func3, Tryz.ntmps3
  go_wp2_with fail
  refine H0.out.mono ?_
  rintro e w1 ⟨rfl, hb1⟩
  go_wp2_with fail
  refine (HC1.out _ hb1).mono ?_
  rintro e w2 ⟨⟨v4, v5, rfl, rs, hcr, hlen, h4, h5⟩, hb2⟩
  have HS := Hid.mk (signed_in rs hcr hlen v4 v5 w2 h4 h5)
  obtain ⟨r, hr⟩ : ∃ r, rs.length = r := ⟨_, rfl⟩
  have HR := Hid.mk hr
  obtain ⟨g4, cap4, ns, rfl, hn4, hx4, R4, HNs, HA, hg4⟩ := h4.form hr
  obtain ⟨g5, cap5, ds, rfl, hn5, hx5, R5, HTs, HD, hg5⟩ := h5.form hr
  have HC4 := Hid.mk (cr_nm R4 HNs.out)
  have HC5 := Hid.mk (cr_ty R5 HTs.out)
  have HCr := Hid.mk hcr
  have HLn := Hid.mk hlen
  rw [hr] at hlen
  clear hr R4 R5 HNs HTs HA HD h4 h5 hcr H0 HC1
  go_wp2_with fail
  refine HS.out.mono ?_
  rintro e V ⟨⟨sv, rfl, hst⟩, hb3⟩
  have HAs := Hid.mk (asks_of HCr.out HLn.out hst)
  obtain ⟨sq, sc, hsv, _⟩ := id hst
  subst hsv
  have HBV := Hid.mk (bthen hb1 (bthen hb2 hb3))
  replace HC4 : Hid (∀ j (hj : j < rs.length) w, Below V.heap.size V w → w.cell? ⟨g4, j, none⟩ = some (.string (nm rs[j].1))) := fun j hj w hb => HC4.out j hj w (bthen hb3 hb)
  replace HC5 : Hid (∀ j (hj : j < rs.length), ∃ q c, (∀ w, Below V.heap.size V w → w.cell? ⟨g5, j, none⟩ = some (.slice q rs[j].2.length c) ∧ IntsAt w (.slice q rs[j].2.length c) rs[j].2)) := fun j hj => by
    obtain ⟨q, c, h⟩ := HC5.out j hj
    exact ⟨q, c, fun w hb => h w (bthen hb3 hb)⟩
  have HW0 : Hid (wildT rs 0 = false) := wildT_zero rs
  obtain ⟨sl, hsl⟩ : ∃ sl, (ringG rs).length = sl := ⟨_, rfl⟩
  rw [hsl] at HAs ⊢
  clear HS hst hb1 hb2 hb3 hsl
  go_wp2_with fail
  go_loopw [11, 12] (fun wv iv wr => ∃ i : Nat, i ≤ r ∧ iv = .int .i64 (i : Int) ∧ wv = .bool (wildT rs i) ∧ Below V.heap.size V wr) (fun _ iv _ => r - (intOf iv).toNat)
  case atStart => exact ⟨0, Nat.zero_le _, rfl, by rw [HW0.out], Below.refl _ _⟩
  case round =>
    obtain ⟨i, hi, rfl, rfl, hbl⟩ := hrel
    by_cases hlt : i < r
    · have i1 : (i : Int) < (r : Int) := by omega
      have hil : i < rs.length := by rw [HR.out]; exact hlt
      have HN := Hid.mk (HC4.out i hil)
      obtain ⟨q, c, hq⟩ := HC5.out i hil
      have HQ := Hid.mk hq
      have A1 := Hid.mk (HAs.out.nam i hil)
      have A2 := Hid.mk (HAs.out.cut i hil)
      have A3 := Hid.mk (HAs.out.typ i hil)
      have HE : Hid (∀ w, Calls Tryz.prog 7 #[.string (nm rs[i].1), .string ⟨#[1, 42, 1, 120, 0]⟩] w fun e w' => e = .returned (.bool (eqB rs[i].1 ([42] :: exX))) ∧ Below w.heap.size w w') := fun w => by
        have := equal_yes rs[i].1 ([42] :: exX) (HCr.out.nms _ (List.getElem_mem _)) okStar w
        rwa [nmStar] at this
      have HWs := Hid.mk (wildT_succ rs i hil)
      have HRg := Hid.mk (HCr.out.rng i hil)
      obtain ⟨nI, hnI⟩ : ∃ nI, nm rs[i].1 = nI := ⟨_, rfl⟩
      rw [hnI] at HN A1 A2 A3 HE
      obtain ⟨ev, hev⟩ : ∃ ev, eqB rs[i].1 ([42] :: exX) = ev := ⟨_, rfl⟩
      rw [hev] at HE HWs
      obtain ⟨tl, htl⟩ : ∃ tl, rs[i].2 = tl := ⟨_, rfl⟩
      simp only [htl] at HQ A3 HRg
      obtain ⟨tn, htn⟩ : ∃ tn, tl.length = tn := ⟨_, rfl⟩
      have HTn := Hid.mk htn
      rw [htn] at HQ
      obtain ⟨wv, hwv⟩ : ∃ wv, wildT rs i = wv := ⟨_, rfl⟩
      rw [hwv] at HWs ⊢
      have HH : Hid (∀ w k, Below V.heap.size V w → Calls Tryz.prog 11 #[.slice q tn c, .int .i64 k] w fun e w' => e = .returned (.bool (hasB tl k)) ∧ w' = w) := fun w k hb => lhas_in w _ tl k HRg.out.1 (HQ.out w hb).2
      have htn' : tn ≤ 1000000 := by rw [← htn]; exact HRg.out.1
      clear hq hnI hev htn hwv
      have HWv : Hid (wildT rs (i + 1) = (wv || ev)) := HWs
      have key : ∀ (u : World), Below V.heap.size V u → True := fun _ _ => trivial
      cases wv with
      | true =>
        have hbu := hbl
        have HWn : Hid (wildT rs (i + 1) = true) := HWv.out.trans (by simp)
        go_upto_region 9 with fail
        have q4 := HN.out _ hbu
        go_wp2_with fail
        refine (A1.out _ hbu).mono ?_
        rintro e u2 ⟨rfl, hb⟩
        replace hbu := bthen hbu hb
        clear hb q4
        have q4 := HN.out _ hbu
        go_wp2_with fail
        refine (A2.out _ hbu).mono ?_
        rintro e u3 ⟨rfl, hb⟩
        replace hbu := bthen hbu hb
        clear hb q4
        go_wp2_with fail
        go_loopw [13] (fun kv w3 => ∃ k : Nat, k ≤ tn ∧ kv = .int .i64 (k : Int) ∧ Below V.heap.size V w3) (fun kv _ => tn - (intOf kv).toNat)
        case atStart => exact ⟨0, Nat.zero_le _, rfl, hbu⟩
        case round =>
          clear hbu
          obtain ⟨k, hk, rfl, hbk⟩ := hrel
          obtain ⟨q5, hin⟩ := HQ.out _ hbk
          by_cases hkt : k < tn
          · have i2 : (k : Int) < (tn : Int) := by omega
            have hkl : k < tl.length := by rw [HTn.out]; exact hkt
            obtain ⟨r1, r2, r3⟩ := HRg.out.2 k hkl
            have B3 : Hid (∀ w, Below V.heap.size V w → Calls Tryz.prog 10 #[.slice sq sl sc, .string nI, .int .i64 tl[k], .string ⟨#[1, 120, 0]⟩] w fun e w' => e = .returned (.int .i64 0) ∧ Below w.heap.size w w') := fun w hb => by
              have := A3.out tl[k] r1 r2 (Or.inl r3) w hb
              rwa [if_pos (Or.inl r3)] at this
            have KS : Hid (∀ w, Below V.heap.size V w → Below V.heap.size V w ∧ w.cell? ⟨g4, i, none⟩ = some (.string nI) ∧ w.cell? ⟨g5, i, none⟩ = some (.slice q tn c) ∧ (∃ g, q = some ⟨g, 0, none⟩ ∧ w.cell? ⟨g, k, none⟩ = some (.int .i64 tl[k]))) := fun w hb => by
              obtain ⟨x1, q', c', x2, x3⟩ := HQ.out w hb
              cases x2
              obtain ⟨g, x4, x5, x6⟩ := x3 k hkl
              exact ⟨hb, HN.out w hb, x1, g, x4, x6⟩
            obtain ⟨gq, hgq⟩ : ∃ g, q = some ⟨g, 0, none⟩ := by
              obtain ⟨_, _, _, g, h, _⟩ := KS.out _ hbk
              exact ⟨g, h⟩
            subst hgq
            obtain ⟨t, ht⟩ : ∃ t, tl[k] = t := ⟨_, rfl⟩
            rw [ht] at B3
            have KS' : Hid (∀ w, Below V.heap.size V w → Below V.heap.size V w ∧ w.cell? ⟨g4, i, none⟩ = some (.string nI) ∧ w.cell? ⟨g5, i, none⟩ = some (.slice (some ⟨gq, 0, none⟩) tn c) ∧ w.cell? ⟨gq, k, none⟩ = some (.int .i64 t)) := fun w hb => by
              obtain ⟨y1, y2, y3, g, y4, y5⟩ := KS.out w hb
              cases y4
              rw [ht] at y5
              exact ⟨y1, y2, y3, y5⟩
            clear KS ht hkl r1 r2 r3 hin
            go_upto_region 14 with fail
            have hS0 := KS'.out _ hbk
            have hSd := KS'.out _ hbk.drew
            have hbd := hbk.drew
            clear q5
            go_region_held3 (fun w => Below V.heap.size V w ∧ w.cell? ⟨g4, i, none⟩ = some (.string nI) ∧ w.cell? ⟨g5, i, none⟩ = some (.slice (some ⟨gq, 0, none⟩) tn c) ∧ w.cell? ⟨gq, k, none⟩ = some (.int .i64 t))
              (first | assumption | (apply KS'.out; first | assumption | (apply Below.drew; assumption)))
              (first | (go_at_call 10; with_reducible refine (B3.out _ (by first | assumption | (apply Below.drew; assumption))).mono ?_; rintro e w2 ⟨rfl, hb2⟩; have F2 : Below V.heap.size V w2 := bthen (by first | assumption | (apply Below.drew; assumption)) hb2; have hs2 := KS'.out _ F2))
            go_wp2
            go_roundw
            case rel => exact ⟨k + 1, by omega, by go_num, F2⟩
            case measure => simp [intOf]; omega
          · obtain rfl : k = tn := by omega
            have i2 : ¬ (k : Int) < (k : Int) := by omega
            clear hin
            by_cases k1 : 0 < kd
            · have k1' : decide (0 < kd) = true := decide_eq_true k1
              by_cases k2 : kd < 65536
              · have k2' : decide (kd < 65536) = true := decide_eq_true k2
                have HHk := Hid.mk fun w hb => HH.out w kd hb
                have A3k := Hid.mk fun h w hb => A3.out kd (by omega) (by omega) h w hb
                obtain ⟨hv, hhv⟩ : ∃ hv, hasB tl kd = hv := ⟨_, rfl⟩
                obtain ⟨h5, hh5⟩ : ∃ h5, hasB tl 5 = h5 := ⟨_, rfl⟩
                have HH5 := Hid.mk fun w hb => HH.out w 5 hb
                rw [hhv] at HHk
                rw [hhv, hh5] at A3k
                rw [hh5] at HH5
                clear hhv hh5
                go_wp2_with fail
                refine (HHk.out _ hbk).mono ?_
                rintro e u4 ⟨rfl, rfl⟩
                cases hv with
                | true =>
                  go_wp2
                  go_roundw
                  case rel => exact ⟨i + 1, by omega, by go_num, by rw [HWn.out], hbk⟩
                  case measure => simp [intOf]; omega
                | false =>
                  by_cases k4 : kd = 43
                  · have k4' : (kd == 43) = true := by simpa using k4
                    clear k4
                    go_wp2
                    go_roundw
                    case rel => exact ⟨i + 1, by omega, by go_num, by rw [HWn.out], hbk⟩
                    case measure => simp [intOf]; omega
                  · have k4' : (kd == 43) = false := by simpa using k4
                    have A4 := Hid.mk (A3k.out (Or.inr k4))
                    clear A3k
                    have q4 := HN.out _ hbk
                    go_wp2_with fail
                    refine (HH5.out _ hbk).mono ?_
                    rintro e u5 ⟨rfl, rfl⟩
                    cases h5 with
                    | true =>
                      have A5 : Hid (∀ w, Below V.heap.size V w → Calls Tryz.prog 10 #[.slice sq sl sc, .string nI, .int .i64 kd, .string ⟨#[1, 120, 0]⟩] w fun e w' => e = .returned (.int .i64 0) ∧ Below w.heap.size w w') := A4
                      clear A4
                      go_wp2_with fail
                      refine (A5.out _ hbk).mono ?_
                      rintro e u6 ⟨rfl, hb⟩
                      have hb6 := bthen hbk hb
                      clear hb
                      go_wp2
                      go_roundw
                      case rel => exact ⟨i + 1, by omega, by go_num, by rw [HWn.out], hb6⟩
                      case measure => simp [intOf]; omega
                    | false =>
                      have A5 : Hid (∀ w, Below V.heap.size V w → Calls Tryz.prog 10 #[.slice sq sl sc, .string nI, .int .i64 kd, .string ⟨#[1, 120, 0]⟩] w fun e w' => e = .returned (.int .i64 1) ∧ Below w.heap.size w w') := A4
                      clear A4
                      go_wp2_with fail
                      refine (A5.out _ hbk).mono ?_
                      rintro e u6 ⟨rfl, hb⟩
                      have hb6 := bthen hbk hb
                      clear hb
                      go_wp2
                      go_roundw
                      case rel => exact ⟨i + 1, by omega, by go_num, by rw [HWn.out], hb6⟩
                      case measure => simp [intOf]; omega
              · have k2' : decide (kd < 65536) = false := decide_eq_false k2
                go_wp2
                go_roundw
                case rel => exact ⟨i + 1, by omega, by go_num, by rw [HWn.out], hbk⟩
                case measure => simp [intOf]; omega
            · have k1' : decide (0 < kd) = false := decide_eq_false k1
              go_wp2
              go_roundw
              case rel => exact ⟨i + 1, by omega, by go_num, by rw [HWn.out], hbk⟩
              case measure => simp [intOf]; omega
      | false =>
        have q4 := HN.out _ hbl
        have HWn : Hid (wildT rs (i + 1) = ev) := HWv.out.trans (by simp)
        go_wp2_with fail
        refine (HE.out _).mono ?_
        rintro e u1 ⟨rfl, hb⟩
        have hbu := bthen hbl hb
        clear hb q4
        have q4 := HN.out _ hbu
        go_wp2_with fail
        refine (A1.out _ hbu).mono ?_
        rintro e u2 ⟨rfl, hb⟩
        replace hbu := bthen hbu hb
        clear hb q4
        have q4 := HN.out _ hbu
        go_wp2_with fail
        refine (A2.out _ hbu).mono ?_
        rintro e u3 ⟨rfl, hb⟩
        replace hbu := bthen hbu hb
        clear hb q4
        go_wp2_with fail
        go_loopw [13] (fun kv w3 => ∃ k : Nat, k ≤ tn ∧ kv = .int .i64 (k : Int) ∧ Below V.heap.size V w3) (fun kv _ => tn - (intOf kv).toNat)
        case atStart => exact ⟨0, Nat.zero_le _, rfl, hbu⟩
        case round =>
          clear hbu
          obtain ⟨k, hk, rfl, hbk⟩ := hrel
          obtain ⟨q5, hin⟩ := HQ.out _ hbk
          by_cases hkt : k < tn
          · have i2 : (k : Int) < (tn : Int) := by omega
            have hkl : k < tl.length := by rw [HTn.out]; exact hkt
            obtain ⟨r1, r2, r3⟩ := HRg.out.2 k hkl
            have B3 : Hid (∀ w, Below V.heap.size V w → Calls Tryz.prog 10 #[.slice sq sl sc, .string nI, .int .i64 tl[k], .string ⟨#[1, 120, 0]⟩] w fun e w' => e = .returned (.int .i64 0) ∧ Below w.heap.size w w') := fun w hb => by
              have := A3.out tl[k] r1 r2 (Or.inl r3) w hb
              rwa [if_pos (Or.inl r3)] at this
            have KS : Hid (∀ w, Below V.heap.size V w → Below V.heap.size V w ∧ w.cell? ⟨g4, i, none⟩ = some (.string nI) ∧ w.cell? ⟨g5, i, none⟩ = some (.slice q tn c) ∧ (∃ g, q = some ⟨g, 0, none⟩ ∧ w.cell? ⟨g, k, none⟩ = some (.int .i64 tl[k]))) := fun w hb => by
              obtain ⟨x1, q', c', x2, x3⟩ := HQ.out w hb
              cases x2
              obtain ⟨g, x4, x5, x6⟩ := x3 k hkl
              exact ⟨hb, HN.out w hb, x1, g, x4, x6⟩
            obtain ⟨gq, hgq⟩ : ∃ g, q = some ⟨g, 0, none⟩ := by
              obtain ⟨_, _, _, g, h, _⟩ := KS.out _ hbk
              exact ⟨g, h⟩
            subst hgq
            obtain ⟨t, ht⟩ : ∃ t, tl[k] = t := ⟨_, rfl⟩
            rw [ht] at B3
            have KS' : Hid (∀ w, Below V.heap.size V w → Below V.heap.size V w ∧ w.cell? ⟨g4, i, none⟩ = some (.string nI) ∧ w.cell? ⟨g5, i, none⟩ = some (.slice (some ⟨gq, 0, none⟩) tn c) ∧ w.cell? ⟨gq, k, none⟩ = some (.int .i64 t)) := fun w hb => by
              obtain ⟨y1, y2, y3, g, y4, y5⟩ := KS.out w hb
              cases y4
              rw [ht] at y5
              exact ⟨y1, y2, y3, y5⟩
            clear KS ht hkl r1 r2 r3 hin
            go_upto_region 14 with fail
            have hS0 := KS'.out _ hbk
            have hSd := KS'.out _ hbk.drew
            have hbd := hbk.drew
            clear q5
            go_region_held3 (fun w => Below V.heap.size V w ∧ w.cell? ⟨g4, i, none⟩ = some (.string nI) ∧ w.cell? ⟨g5, i, none⟩ = some (.slice (some ⟨gq, 0, none⟩) tn c) ∧ w.cell? ⟨gq, k, none⟩ = some (.int .i64 t))
              (first | assumption | (apply KS'.out; first | assumption | (apply Below.drew; assumption)))
              (first | (go_at_call 10; with_reducible refine (B3.out _ (by first | assumption | (apply Below.drew; assumption))).mono ?_; rintro e w2 ⟨rfl, hb2⟩; have F2 : Below V.heap.size V w2 := bthen (by first | assumption | (apply Below.drew; assumption)) hb2; have hs2 := KS'.out _ F2))
            go_wp2
            go_roundw
            case rel => exact ⟨k + 1, by omega, by go_num, F2⟩
            case measure => simp [intOf]; omega
          · obtain rfl : k = tn := by omega
            have i2 : ¬ (k : Int) < (k : Int) := by omega
            clear hin
            by_cases k1 : 0 < kd
            · have k1' : decide (0 < kd) = true := decide_eq_true k1
              by_cases k2 : kd < 65536
              · have k2' : decide (kd < 65536) = true := decide_eq_true k2
                have HHk := Hid.mk fun w hb => HH.out w kd hb
                have A3k := Hid.mk fun h w hb => A3.out kd (by omega) (by omega) h w hb
                obtain ⟨hv, hhv⟩ : ∃ hv, hasB tl kd = hv := ⟨_, rfl⟩
                obtain ⟨h5, hh5⟩ : ∃ h5, hasB tl 5 = h5 := ⟨_, rfl⟩
                have HH5 := Hid.mk fun w hb => HH.out w 5 hb
                rw [hhv] at HHk
                rw [hhv, hh5] at A3k
                rw [hh5] at HH5
                clear hhv hh5
                go_wp2_with fail
                refine (HHk.out _ hbk).mono ?_
                rintro e u4 ⟨rfl, rfl⟩
                cases hv with
                | true =>
                  go_wp2
                  go_roundw
                  case rel => exact ⟨i + 1, by omega, by go_num, by rw [HWn.out], hbk⟩
                  case measure => simp [intOf]; omega
                | false =>
                  by_cases k4 : kd = 43
                  · have k4' : (kd == 43) = true := by simpa using k4
                    clear k4
                    go_wp2
                    go_roundw
                    case rel => exact ⟨i + 1, by omega, by go_num, by rw [HWn.out], hbk⟩
                    case measure => simp [intOf]; omega
                  · have k4' : (kd == 43) = false := by simpa using k4
                    have A4 := Hid.mk (A3k.out (Or.inr k4))
                    clear A3k
                    have q4 := HN.out _ hbk
                    go_wp2_with fail
                    refine (HH5.out _ hbk).mono ?_
                    rintro e u5 ⟨rfl, rfl⟩
                    cases h5 with
                    | true =>
                      have A5 : Hid (∀ w, Below V.heap.size V w → Calls Tryz.prog 10 #[.slice sq sl sc, .string nI, .int .i64 kd, .string ⟨#[1, 120, 0]⟩] w fun e w' => e = .returned (.int .i64 0) ∧ Below w.heap.size w w') := A4
                      clear A4
                      go_wp2_with fail
                      refine (A5.out _ hbk).mono ?_
                      rintro e u6 ⟨rfl, hb⟩
                      have hb6 := bthen hbk hb
                      clear hb
                      go_wp2
                      go_roundw
                      case rel => exact ⟨i + 1, by omega, by go_num, by rw [HWn.out], hb6⟩
                      case measure => simp [intOf]; omega
                    | false =>
                      have A5 : Hid (∀ w, Below V.heap.size V w → Calls Tryz.prog 10 #[.slice sq sl sc, .string nI, .int .i64 kd, .string ⟨#[1, 120, 0]⟩] w fun e w' => e = .returned (.int .i64 1) ∧ Below w.heap.size w w') := A4
                      clear A4
                      go_wp2_with fail
                      refine (A5.out _ hbk).mono ?_
                      rintro e u6 ⟨rfl, hb⟩
                      have hb6 := bthen hbk hb
                      clear hb
                      go_wp2
                      go_roundw
                      case rel => exact ⟨i + 1, by omega, by go_num, by rw [HWn.out], hb6⟩
                      case measure => simp [intOf]; omega
              · have k2' : decide (kd < 65536) = false := decide_eq_false k2
                go_wp2
                go_roundw
                case rel => exact ⟨i + 1, by omega, by go_num, by rw [HWn.out], hbk⟩
                case measure => simp [intOf]; omega
            · have k1' : decide (0 < kd) = false := decide_eq_false k1
              go_wp2
              go_roundw
              case rel => exact ⟨i + 1, by omega, by go_num, by rw [HWn.out], hbk⟩
              case measure => simp [intOf]; omega
    · obtain rfl : i = r := by omega
      have i1 : ¬ (i : Int) < (i : Int) := by omega
      have HWr : Hid (wildT rs i = wildB rs) := by rw [Hid, ← HR.out]; exact wildT_all rs
      rw [HWr.out]
      clear HWr
      by_cases hlab : 1 ≤ lb.size ∧ lb.size ≤ 63
      · have HCh := Hid.mk (childX_yes lb hlab.1 hlab.2)
        have HOk := Hid.mk (childX_ok lb hlab.1 hlab.2)
        have HEq : Hid (∀ j (hj : j < rs.length) w, Calls Tryz.prog 7 #[.string (nm rs[j].1), .string (nm (lb.data.toList :: exX))] w fun e w' => e = .returned (.bool (eqB rs[j].1 (lb.data.toList :: exX))) ∧ Below w.heap.size w w') := fun j hj w => equal_yes _ _ (HCr.out.nms _ (List.getElem_mem _)) HOk.out w
        have HNw := Hid.mk (HAs.out.new lb.data.toList HOk.out)
        obtain ⟨N, hN⟩ : ∃ N, nm (lb.data.toList :: exX) = N := ⟨_, rfl⟩
        rw [hN] at HCh HEq HNw
        clear hN hlab HOk
        go_wp2_with fail
        refine (HCh.out _).mono ?_
        rintro e u1 ⟨rfl, hb⟩
        have hbu := bthen hbl hb
        clear hb
        go_wp2_with fail
        go_loopw [17] (fun jv w3 => ∃ j : Nat, j ≤ i ∧ jv = .int .i64 (j : Int) ∧ Hid (∀ k (hk : k < rs.length), k < j → eqB rs[k].1 (lb.data.toList :: exX) = false) ∧ Below V.heap.size V w3) (fun jv _ => i - (intOf jv).toNat)
        case atStart => exact ⟨0, Nat.zero_le _, rfl, fun k _ h => absurd h (Nat.not_lt_zero _), hbu⟩
        case round =>
          clear hbu
          obtain ⟨j, hj, rfl, HNo, hbj⟩ := hrel
          by_cases hjt : j < i
          · have i2 : (j : Int) < (i : Int) := by omega
            have hjl : j < rs.length := by rw [HR.out]; exact hjt
            have q4 := HC4.out j hjl _ hbj
            have HE1 := Hid.mk (HEq.out j hjl)
            obtain ⟨ev, hev⟩ : ∃ ev, eqB rs[j].1 (lb.data.toList :: exX) = ev := ⟨_, rfl⟩
            obtain ⟨nJ, hnJ⟩ : ∃ nJ, nm rs[j].1 = nJ := ⟨_, rfl⟩
            rw [hev, hnJ] at HE1
            rw [hnJ] at q4
            have HEv := Hid.mk hev
            clear hev hnJ
            go_wp2_with fail
            refine (HE1.out _).mono ?_
            rintro e u2 ⟨rfl, hb⟩
            have hb2 := bthen hbj hb
            clear hb q4
            cases ev with
            | true =>
              go_wp2
              go_ret
              exact ⟨rfl, bthen HBV.out hb2⟩
            | false =>
              have HNo' : Hid (∀ k (hk : k < rs.length), k < j + 1 → eqB rs[k].1 (lb.data.toList :: exX) = false) := fun k hk h => by
                rcases Nat.lt_succ_iff_lt_or_eq.1 h with h1 | rfl
                · exact HNo.out k hk h1
                · exact HEv.out
              go_wp2
              go_roundw
              case rel => exact ⟨j + 1, by omega, by go_num, HNo', hb2⟩
              case measure => simp [intOf]; omega
          · obtain rfl : j = i := by omega
            have i2 : ¬ (j : Int) < (j : Int) := by omega
            have HNm := Hid.mk (HNw.out (fun r hr => by
              obtain ⟨k, hk, rfl⟩ := List.getElem_of_mem hr
              exact HNo.out k hk (by rw [HR.out] at hk; exact hk)))
            clear HNw HNo
            obtain ⟨wb, hwb⟩ : ∃ wb, wildB rs = wb := ⟨_, rfl⟩
            rw [hwb] at HNm ⊢
            clear hwb
            cases wb with
            | true =>
              have HN2 : Hid (∀ w, Below V.heap.size V w → Calls Tryz.prog 8 #[.slice sq sl sc, .string N, .string ⟨#[1, 120, 0]⟩] w fun e w' => e = .returned (.int .i64 0) ∧ Below w.heap.size w w') := HNm
              clear HNm
              go_wp2_with fail
              refine (HN2.out _ hbj).mono ?_
              rintro e u2 ⟨rfl, hb⟩
              go_wp2
              go_ret
              exact ⟨rfl, bthen HBV.out (bthen hbj hb)⟩
            | false =>
              have HN2 : Hid (∀ w, Below V.heap.size V w → Calls Tryz.prog 8 #[.slice sq sl sc, .string N, .string ⟨#[1, 120, 0]⟩] w fun e w' => e = .returned (.int .i64 1) ∧ Below w.heap.size w w') := HNm
              clear HNm
              go_wp2_with fail
              refine (HN2.out _ hbj).mono ?_
              rintro e u2 ⟨rfl, hb⟩
              go_wp2
              go_ret
              exact ⟨rfl, bthen HBV.out (bthen hbj hb)⟩
      · have HCh := Hid.mk (childX_no lb (by unfold maxLen; omega) hlab)
        go_wp2_with fail
        refine (HCh.out _).mono ?_
        rintro e u1 ⟨rfl, hb⟩
        go_wp2
        go_ret
        exact ⟨rfl, bthen HBV.out (bthen hbl hb)⟩
end Go.Proofs.YtnchoogjjnjikaaGreatDoor