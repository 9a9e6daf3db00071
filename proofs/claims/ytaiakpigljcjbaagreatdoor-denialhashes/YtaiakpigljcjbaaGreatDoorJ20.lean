/- Texts of this proof, joined: GPad, GRTell, GRSum1, GRSum2, KSums. -/
import Derived.ArgAppend
import Derived.Lib.ConvBytes
import Derived.Test.YtaiakpigljcjbaaGreatDoorJ17
import Derived.Deep.RegionLaw
import Derived.Deep.RegionHeld3
import Derived.Test.YtaiakpigljcjbaaGreatDoorJ18
import Derived.Laws.CopyOwn
import Derived.Test.YtaiakpigljcjbaaGreatDoorJ19
/- The document's padded: bytes appended to what '[]byte(s)' made. -/
namespace Go.Proofs.YtaiakpigljcjbaaGreatDoor.G
set_option linter.unusedVariables false
open Go.RowKit

/-- cells are stored, none of them marked. -/
theorem storeCells_clear (P : Program) (g o : Nat) (t : TypeId) (fz : Nat × Nat) (vs : List Value) : ∀ (i : Nat) (cur : Array Value) (w : World), w.heap[g]? = some (.cells cur t fz) → (fz.2 = 0 ∨ o + i + vs.length ≤ fz.1) → o + i + vs.length ≤ cur.size → (∀ v ∈ vs, v.oneCell' = true) →
    (storeCells ⟨g, o, none⟩ vs i).run P w = .ok () (w.setRow g (cur.toList.take (o + i) ++ vs ++ cur.toList.drop (o + i + vs.length)).toArray) := by
  induction vs with
  | nil =>
    intro i cur w hg _ _ _
    simp only [storeCells, List.append_nil, List.length_nil, Nat.add_zero, List.take_append_drop, Array.toArray_toList]
    rw [setRow_self w g cur t fz hg]
    rfl
  | cons v rest ih =>
    intro i cur w hg hfz hl h1
    rw [List.length_cons] at hfz hl
    have hi : o + i < cur.size := by omega
    have hadd : (⟨g, o, none⟩ : Addr).add i = ⟨g, o + i, none⟩ := Addr.add_lit ..
    have hcell : w.cell? ⟨g, o + i, none⟩ = some cur[o + i] := by simp [World.cell?, hg, hi]
    have hfro : w.frozen? ⟨g, o + i, none⟩ = false := by
      obtain ⟨lo, hi'⟩ := fz
      simp only [World.frozen?, hg, Bool.and_eq_false_iff, decide_eq_false_iff_not]
      simp only at hfz
      omega
    have hst : (store ((⟨g, o, none⟩ : Addr).add i) v).run P w = .ok () (w.setRow g (cur.setIfInBounds (o + i) v)) := by
      rw [hadd, run_store P w _ v _ (h1 v (by simp)), hcell]
      simp [hfro, setCell_eq_setRow w g (o + i) cur t fz v hg]
    have h2 := ih (i + 1) (cur.setIfInBounds (o + i) v) (w.setRow g (cur.setIfInBounds (o + i) v)) (setRow_heap w g cur _ t _ hg) (by omega) (by simp; omega) (fun x hx => h1 x (by simp [hx]))
    simp only [storeCells, Sem.run_bind, hst, Result.andThen_ok, h2, setRow_setRow]
    congr 3
    have e := list_seg_step cur.toList (o + i) v rest (by simp; omega)
    simpa [Array.toList_setIfInBounds, Nat.add_assoc] using e

/-- a row of bytes of one's own, its mark, if any, behind all its cells. -/
def OwnsC (w : World) (base : Nat) (v : Value) (xs : List UInt8) : Prop :=
  ∃ g cap cur fz, v = .slice (some ⟨g, 0, none⟩) xs.length cap ∧ base ≤ g ∧ w.heap[g]? = some (.cells cur 5 fz) ∧ (fz.2 = 0 ∨ cap ≤ fz.1) ∧ xs.length ≤ cap ∧ cap ≤ maxLen ∧ cur.size = cap ∧ cur.toList.take xs.length = bcl xs

theorem OwnsC.lt {w : World} {base : Nat} {v : Value} {xs : List UInt8} (h : OwnsC w base v xs) : ∀ k, v.ownBlock = some k → base ≤ k := by
  obtain ⟨g, cap, cur, fz, rfl, hb, _⟩ := h
  intro k hk
  simp [Value.ownBlock] at hk
  omega
theorem OwnsC.conv (w : World) (s : ByteArray) (hs : s.size ≤ maxLen) : OwnsC (Lib.bytesWorld w 5 s) w.heap.size (.slice (some ⟨w.heap.size, 0, none⟩) s.size (grownCap w s.size 0 5)) s.data.toList := by
  have hge := grownCap_ge w s.size 0 5
  have hz : (Lib.bytesCells w 5 s).size = grownCap w s.size 0 5 := by simp [Lib.bytesCells]; omega
  refine ⟨w.heap.size, grownCap w s.size 0 5, _, _, by rw [size_list], Nat.le_refl _, Lib.bytesWorld_at_new w 5 s, .inr (by rw [hz]; exact Nat.le_refl _), by rw [size_list]; exact hge, grownCap_le_maxLen w s.size 0 5 hs, hz, ?_⟩
  simp only [Lib.bytesCells, Array.toList_append, Array.toList_map, bcl]
  rw [List.take_append_of_le_length (by simp)]
  exact List.take_of_length_le (by simp)

/-- .. turned into a text again. -/
theorem OwnsC.back {w : World} {base : Nat} {v : Value} {xs : List UInt8} (h : OwnsC w base v xs) : (convert 50 9 v).run Tryz.prog w = .ok (.string ⟨xs.toArray⟩) w := by
  obtain ⟨g, cap, cur, fz, rfl, _, hg, _, _, _, _, ht⟩ := h
  refine run_convert_bytes_back (P := Tryz.prog) w 50 9 5 ⟨g, 0, none⟩ cap xs Tryz.underlying50 Tryz.underlying5 Tryz.underlying9 (fun j hj => ?_)
  rw [addr_at, cell_of_row w g j cur 5 fz hg]
  have : (cur.toList.take xs.length)[j]? = (bcl xs)[j]? := by rw [ht]
  rw [List.getElem?_take_of_lt hj] at this
  simpa [bcl, hj] using this


theorem wpList_append_C1 (w : World) {ops : Array Oper} {rest : List Oper} {o : Oper} {a : Act} {Q : Exit → Act → World → Prop} (hgd : o.guard = none) (sl x : Operand)
    (ho : o.op = .call { callee := .builtin .append, args := #[sl, x], argTypes := #[50, 50] })
    (i0 : TypeInfo) (hi : Tryz.prog.info? 5 = some i0) (hz : i0.zero = some (.int .u8 0)) (hsize : i0.size = 1) (hby : i0.bytes = 1) (base : Nat) (v : Value) (xs : List UInt8) (hs : a.eval sl = v) (hown : OwnsC w base v xs) (b : Nat) (y : UInt8) (hx : a.eval x = .slice (some ⟨b, 0, none⟩) 1 1)
    (hy : w.cell? ⟨b, 0, none⟩ = some (.int .u8 (y.toNat : Int))) (h63 : xs.length + 1 ≤ 140737488355328) (hbase : base ≤ w.heap.size)
    (h : ∀ v' w', OwnsC w' base v' (xs ++ [y]) → w.grownBy w' v.ownBlock → wpList Tryz.prog ops Q rest (a.put o.dst v') w') : wpList Tryz.prog ops Q (o :: rest) a w := by
  have hown' := hown
  obtain ⟨g, cap, cur, fz, rfl, hbg, hg, hfz, hnc, hcm, hcs, htake⟩ := hown
  have hln : (xs ++ [y]).length = xs.length + 1 := by simp
  have holds : ∀ j u, (bcl xs)[j]? = some u → w.cell? ((⟨g, 0, none⟩ : Addr).add j) = some u := by
    intro j u hu
    rw [addr_at, cell_of_row w g j cur 5 fz hg]
    rw [← htake, List.getElem?_take] at hu
    split at hu
    · simpa using hu
    · cases hu
  have hnew : ∀ j u, ([.int .u8 (y.toNat : Int)] : List Value)[j]? = some u → w.cell? ((⟨b, 0, none⟩ : Addr).add j) = some u := by
    intro j u hu
    match j, hu with
    | 0, hu => rw [addr_at]; cases hu; exact hy
  by_cases hroom : xs.length + 1 ≤ cap
  · have hld := run_loadCells_list (P := Tryz.prog) w ⟨b, 0, none⟩ [.int .u8 (y.toNat : Int)] hnew
    have hst := storeCells_clear Tryz.prog g xs.length 5 fz [.int .u8 (y.toNat : Int)] 0 cur w hg (by simp only [List.length_singleton]; omega) (by simp only [List.length_singleton]; omega) (by simp [Value.oneCell'])
    simp only [Nat.add_zero, List.length_singleton] at hst hld
    have hr : (Builtin.append_ #[50, 50] o.type #[.slice (some ⟨g, 0, none⟩) xs.length cap, .slice (some ⟨b, 0, none⟩) 1 1]).run Tryz.prog w = .ok (.slice (some ⟨g, 0, none⟩) (xs.length + 1) cap) (w.setRow g (cur.toList.take xs.length ++ [Value.int .u8 (y.toNat : Int)] ++ cur.toList.drop (xs.length + 1)).toArray) := by
      simp [Builtin.append_, run_underlying Tryz.underlying50, sizeOf, typeInfo, hi, hsize, Builtin.lenOf, hroom, Builtin.firstCells, hld, Addr.add_lit, hst]
    refine wpList_plain hgd fun K hK => ?_
    unfold Oper.wp execOp
    simp only [ho, resolve, invoke, builtin, Sem.run_bind, Sem.run_pure, Result.andThen_ok, List.map_toArray, List.map_cons, List.map_nil, hs, hx, hr]
    refine hK _ _ (h _ _ ?_ ⟨rfl, rfl, rfl, by simp, fun k _ hk => setRow_other w g k _ (fun e => hk (by simp [Value.ownBlock, e]))⟩)
    refine ⟨g, cap, _, fz, by rw [hln], hbg, setRow_heap w g cur _ 5 _ hg, hfz, by rw [hln]; exact hroom, hcm, ?_, ?_⟩
    · simp only [List.size_toArray, List.length_append, List.length_take, List.length_drop, Array.length_toList, List.length_singleton]
      omega
    · rw [htake, bcl_app]
      exact List.take_left' (by simp [bcl])
  · refine wpList_append_grows w hgd sl x 50 ho 5 i0 (.int .u8 0) 1 1 Tryz.underlying50 hi hz hsize hby rfl (by decide) (some ⟨g, 0, none⟩) xs.length cap (bcl xs) hs (by simp) (by simp [bcl]) (fun b' hb' j u hu => by cases hb'; exact holds j u hu) ⟨b, 0, none⟩ 1 1 [.int .u8 (y.toNat : Int)] hx rfl hnew (by simp [Value.oneCell']) (by omega) (by unfold maxLen; omega) (by omega) ?_
    intro v' w' ho' hgr
    obtain ⟨a1, a2, a3, a4, a5⟩ := hgr
    refine h v' w' ?_ ⟨a1, a2, a3, a4, fun k hk _ => a5 k hk (by simp)⟩
    rcases ho'.2 with ⟨_, h0⟩ | ⟨g', cap', cur', hv, hb', hh, hnc', hcm', hcs', ht'⟩
    · omega
    · refine ⟨g', cap', cur', (0, 0), by rw [hln]; exact hv, Nat.le_trans hbase hb', hh, .inl rfl, by rw [hln]; exact hnc', hcm', by rw [hcs']; omega, ?_⟩
      rw [Nat.mul_one] at ht'
      rw [hln, ht', bcl_app]
      rfl

theorem OwnsC.alloc {w : World} {base : Nat} {v : Value} {xs : List UInt8} (h : OwnsC w base v xs) (o : Obj) : OwnsC (w.alloc o) base v xs := by
  obtain ⟨g, cap, cur, fz, hv, hbg, hg, r⟩ := h
  exact ⟨g, cap, cur, fz, hv, hbg, (Below.heap_alloc w o g (box_lt hg)).trans hg, r⟩
theorem OwnsC.form {w : World} {base : Nat} {v : Value} {xs : List UInt8} (h : OwnsC w base v xs) {p : Nat} (hp : xs.length = p) : ∃ g cap, v = .slice (some ⟨g, 0, none⟩) p cap := by
  obtain ⟨g, cap, cur, fz, hv, _⟩ := h
  subst hp
  exact ⟨g, cap, hv⟩
theorem one_cell (X : World) (y : UInt8) : (X.alloc (.cells #[.int .u8 (y.toNat : Int)] 5)).cell? ⟨X.heap.size, 0, none⟩ = some (.int .u8 (y.toNat : Int)) := by
  exact (cells_at (j := 0) (heap_new X (.cells #[.int .u8 (y.toNat : Int)] 5)) rfl).1
def slLen : Value → Nat
  | .slice _ n _ => n
  | _ => 0
/-- a text made up to blocks. -/
def padL (l : List UInt8) : List UInt8 := (List.range (64 * nb l.length)).map (padAt l)
theorem pad_eq (l : List UInt8) (z : Nat) (hz : z = 64 * nb l.length - 8 - (l.length + 1)) : (l ++ 128 :: List.replicate z 0) ++ endT (8 * l.length) 8 = padL l := by
  have hnb : 64 * nb l.length ≥ l.length + 9 := by unfold nb; omega
  apply List.ext_getElem?
  intro k
  unfold padL
  rw [List.getElem?_map]
  by_cases hk : k < 64 * nb l.length
  · rw [List.getElem?_range hk]
    show _ = some (padAt l k)
    unfold padAt
    rw [List.getElem?_append, List.length_append, List.length_cons, List.length_replicate]
    by_cases h1 : k < l.length
    · rw [if_pos (by omega), if_pos h1, List.getElem?_append_left h1, List.getElem?_eq_getElem h1]; rfl
    · rw [if_neg h1]
      by_cases h2 : k = l.length
      · rw [if_pos (by omega), if_pos h2, List.getElem?_append_right (by omega), h2, Nat.sub_self]; rfl
      · rw [if_neg h2]
        by_cases h3 : k < 64 * nb l.length - 8
        · rw [if_pos (by omega), if_pos h3, List.getElem?_append_right (by omega), show k - l.length = (k - l.length - 1) + 1 by omega, List.getElem?_cons_succ, List.getElem?_replicate, if_pos (by omega)]
        · rw [if_neg (by omega), if_neg h3]
          obtain ⟨j, hj, hj8⟩ : ∃ j, k - (l.length + (z + 1)) = j ∧ j < 8 := ⟨_, rfl, by omega⟩
          rw [hj, show 64 * nb l.length - 1 - k = 7 - j by omega]
          rcases (show j = 0 ∨ j = 1 ∨ j = 2 ∨ j = 3 ∨ j = 4 ∨ j = 5 ∨ j = 6 ∨ j = 7 by omega) with rfl | rfl | rfl | rfl | rfl | rfl | rfl | rfl <;> rfl
  · rw [List.getElem?_eq_none (by rw [List.length_append, List.length_append, List.length_cons, List.length_replicate, endT_len]; omega), List.getElem?_eq_none (by rw [List.length_range]; omega)]
    rfl
theorem endT_take (m t : Nat) (ht : t < 8) : (endT m 8).take (t + 1) = (endT m 8).take t ++ [bt m (7 - t)] := by
  rcases (show t = 0 ∨ t = 1 ∨ t = 2 ∨ t = 3 ∨ t = 4 ∨ t = 5 ∨ t = 6 ∨ t = 7 by omega) with rfl | rfl | rfl | rfl | rfl | rfl | rfl | rfl <;> rfl

set_option maxRecDepth 100000 in
set_option maxHeartbeats 2000000 in
theorem padded_in (s : ByteArray) (hs : s.size ≤ 140737488351232) (W : World) :
    Calls Tryz.prog 35 #[.string s] W fun e w' => e = .returned (.string ⟨(padL s.data.toList).toArray⟩) ∧ Below W.heap.size W w' := by
  obtain ⟨i0, hi, hz0, hz1, hz2⟩ := info_of info5
  obtain ⟨n, hn⟩ : ∃ n, s.size = n := ⟨_, rfl⟩
  obtain ⟨l, hl⟩ : ∃ l, s.data.toList = l := ⟨_, rfl⟩
  have HLN : Hid (l.length = n) := by rw [Hid, ← hl, size_list]; exact hn
  obtain ⟨z, hz⟩ : ∃ z, z = 64 * nb n - 8 - (n + 1) := ⟨_, rfl⟩
  have HPE := Hid.mk (pad_eq l z (by rw [HLN.out]; exact hz))
  rw [HLN.out] at HPE
  have hcv := conv_bytes s
  have HC0 : Hid (∀ W : World, OwnsC (Lib.bytesWorld W 5 s) W.heap.size (.slice (some ⟨W.heap.size, 0, none⟩) n (grownCap W n 0 5)) l) := fun W => by
    have h := OwnsC.conv W s (by unfold maxLen; omega)
    rwa [hl, hn] at h
  have HB0 : Hid (∀ W : World, Below W.heap.size W (Lib.bytesWorld W 5 s)) := conv_below s
  rw [hl, ← HPE.out]
  rw [hn] at hcv
  have hzn : z ≤ 63 := by rw [hz]; unfold nb; omega
  have HZ : Hid (∀ j, j ≤ z → ((n + 1 + j) % 64 = 56 ↔ j = z)) := fun j hj => by rw [hz] at hj ⊢; unfold nb at hj ⊢; omega
  have hnl : n ≤ 140737488351232 := by omega
  clear hz hl HPE
  go_enter Tryz.func35, Tryz.ntmps35
  go_wp2_with (at_builtin; refine wpList_append_C1 _ rfl _ _ rfl i0 hi hz0 hz1 hz2 W.heap.size _ l rfl ((HC0.out W).alloc _) _ 128 rfl (one_cell _ 128) (by rw [HLN.out]; omega) (Nat.le_trans (HB0.out W).size (by simp)) ?_; intro v1 w1 hown1 hgrow1)
  have B1 : Below W.heap.size W w1 := ((HB0.out W).alloc (HB0.out W).size _).grown hgrow1 (Nat.le_trans (HB0.out W).size (by simp)) (fun k hk => (HC0.out W).lt k hk)
  have O1 := Hid.mk hown1
  clear hown1 hgrow1 HC0 HB0 hcv
  go_loopw [4] (fun v wr => ∃ j, j ≤ z ∧ OwnsC wr W.heap.size v (l ++ 128 :: List.replicate j 0) ∧ Below W.heap.size W wr) (fun v _ => (n + 1 + z) - slLen v)
  case atStart => exact ⟨0, by omega, O1.out, B1⟩
  case round =>
    obtain ⟨j, hj, hown, hbl⟩ := hrel
    obtain ⟨p, hp⟩ : ∃ p, n + 1 + j = p := ⟨_, rfl⟩
    have hpl : (l ++ 128 :: List.replicate j 0).length = p := by rw [List.length_append, List.length_cons, List.length_replicate, HLN.out]; omega
    obtain ⟨g, cap, rfl⟩ := hown.form hpl
    have HO := Hid.mk hown
    have HZJ := HZ.out j hj
    rw [hp] at HZJ
    have hpn : p ≤ 140737488355000 := by omega
    have hsz := hbl.size
    have HPL := Hid.mk hpl
    have HPP := Hid.mk hp
    clear hown hpl hp
    by_cases he : j = z
    · have h56 : p % 64 = 56 := HZJ.2 he
      have r1 : (p : Int).tmod 64 = 56 := by rw [Int.tmod_eq_emod_of_nonneg (by omega)]; omega
      have r2 : (p : Int) % 64 = 56 := by omega
      have HEQ : Hid (j = z) := he
      clear HZJ h56 he
      have HOZ : Hid (OwnsC wr W.heap.size (.slice (some ⟨g, 0, none⟩) p cap) (l ++ 128 :: List.replicate z 0)) := by rw [← HEQ.out]; exact HO.out
      have HLZ : Hid ((l ++ 128 :: List.replicate z 0).length = p) := by rw [← HEQ.out]; exact HPL.out
      obtain ⟨pre, hpre⟩ : ∃ pre, l ++ 128 :: List.replicate z 0 = pre := ⟨_, rfl⟩
      rw [hpre] at HOZ HLZ
      have HPRE := Hid.mk hpre
      clear hpre
      clear HO HPL HPP HEQ HZ O1 B1
      go_wp2_with fail
      go_loopw [4, 5] (fun v i w2 => ∃ t : Nat, t ≤ 8 ∧ i = .int .i64 (7 - (t : Int)) ∧ OwnsC w2 W.heap.size v (pre ++ (endT (8 * n) 8).take t) ∧ Below W.heap.size W w2) (fun _ i _ => (intOf i + 1).toNat)
      case atStart => exact ⟨0, by omega, rfl, by rw [List.take_zero, List.append_nil]; exact HOZ.out, hbl⟩
      case round =>
        obtain ⟨t, ht, rfl, hown, hbl2⟩ := hrel
        have hlt : (pre ++ (endT (8 * n) 8).take t).length = p + t := by rw [List.length_append, HLZ.out, List.length_take, endT_len]; omega
        obtain ⟨g2, cap2, rfl⟩ := hown.form hlt
        have HO2 := Hid.mk hown
        have HL2 := Hid.mk hlt
        have hsz2 := hbl2.size
        clear hown hlt
        by_cases h8 : t < 8
        · have hbv : (8 * (n : Int)) / 2 ^ (8 * (7 - t)) % 256 = ((bt (8 * n) (7 - t)).toNat : Int) := by
            have := bt_int (8 * n) (7 - t)
            rw [Int.natCast_mul] at this
            exact this.symm
          have HTK := Hid.mk (endT_take (8 * n) t h8)
          generalize bt (8 * n) (7 - t) = y at hbv HTK
          have hsh : (8 * (7 - (t : Int))).toNat = 8 * (7 - t) := by omega
          have hge : (0 : Int) ≤ 7 - (t : Int) := by omega
          go_wp2_with (at_builtin; refine wpList_append_C1 _ rfl _ _ rfl i0 hi hz0 hz1 hz2 W.heap.size _ _ rfl (HO2.out.alloc _) _ y rfl (one_cell _ y) (by rw [HL2.out]; omega) (Nat.le_trans hbl2.size (by simp)) ?_; intro v2 w3 hown2 hgrow2)
          have B3 : Below W.heap.size W w3 := (hbl2.alloc hbl2.size _).grown hgrow2 (Nat.le_trans hbl2.size (by simp)) (fun k hk => HO2.out.lt k hk)
          rw [List.append_assoc, ← HTK.out] at hown2
          go_roundw
          case rel => exact ⟨t + 1, by omega, by go_num, hown2, B3⟩
          case measure => simp [intOf]; omega
        · obtain rfl : t = 8 := by omega
          have hfull : pre ++ (endT (8 * n) 8).take 8 = pre ++ endT (8 * n) 8 := by rw [List.take_of_length_le (by rw [endT_len]; omega)]
          have hcv := HO2.out.back
          rw [hfull] at hcv
          clear hfull
          go_wp2
          go_ret
          exact ⟨by rw [HPRE.out]; rfl, hbl2⟩
    · obtain ⟨r, hr⟩ : ∃ r, p % 64 = r := ⟨_, rfl⟩
      have hr56 : r ≠ 56 := fun e => he (HZJ.1 (hr.trans e))
      have r1 : (p : Int).tmod 64 = (r : Int) := by rw [Int.tmod_eq_emod_of_nonneg (by omega)]; omega
      have r2 : (p : Int) % 64 = (r : Int) := by omega
      have r3 : ((r : Int) != 56) = true := by rw [bne_iff_ne]; omega
      have r4 : ((r : Int) == 56) = false := by rw [beq_eq_false_iff_ne]; omega
      have hjz : j < z := by omega
      clear HZJ hr he hr56
      go_wp2_with (at_builtin; refine wpList_append_C1 _ rfl _ _ rfl i0 hi hz0 hz1 hz2 W.heap.size _ _ rfl (HO.out.alloc _) _ 0 rfl (one_cell _ 0) (by rw [HPL.out]; omega) (Nat.le_trans hbl.size (by simp)) ?_; intro v2 w2 hown2 hgrow2)
      have B2 : Below W.heap.size W w2 := (hbl.alloc hbl.size _).grown hgrow2 (Nat.le_trans hbl.size (by simp)) (fun k hk => HO.out.lt k hk)
      have hrep : (l ++ 128 :: List.replicate j 0) ++ [0] = l ++ 128 :: List.replicate (j + 1) 0 := by rw [List.append_assoc, List.replicate_succ']; rfl
      rw [hrep] at hown2
      have hl2 : (l ++ 128 :: List.replicate (j + 1) 0).length = p + 1 := by rw [← hrep, List.length_append, HPL.out]; rfl
      obtain ⟨g2, cap2, hv2⟩ := hown2.form hl2
      go_roundw
      case rel => exact ⟨j + 1, by omega, hown2, B2⟩
      case measure =>
        have := HPP.out
        simp only [hv2, slLen]
        omega
end Go.Proofs.YtaiakpigljcjbaaGreatDoor.G

/- The document's tell. -/
namespace Go.Proofs.YtaiakpigljcjbaaGreatDoor.G
set_option linter.unusedVariables false
open Go.RowKit
theorem step_append_own {w : World} {ops : Array Oper} {o : Oper} {a : Act} {K : Act → World → Prop} {Q : Exit → Act → World → Prop} {E : Prop} (hgd : o.guard = none) (s x : Operand)
    (ho : o.op = .call { callee := .builtin .append, args := #[s, x], argTypes := #[50, 50] }) (base : Nat) (i : TypeInfo)
    (h2 : Tryz.prog.info? 5 = some i) (h3 : i.zero = some (.int .u8 0)) (h4 : i.size = 1) (h5 : i.bytes = 1) (v : Value) (n : Nat) (xs : List Value) (hs : a.eval s = v) (hown : w.ownsRow base 5 1 v n xs)
    (ad : Addr) (m c : Nat) (news : List Value) (hx : a.eval x = .slice (some ad) m c) (hn : news.length = m) (hc : ∀ j u, news[j]? = some u → w.cell? (ad.add j) = some u) (h1c : ∀ u ∈ news, u.oneCell' = true) (b1 : n + m ≤ 100000000) (hm : 0 < m) (hb : base ≤ w.heap.size)
    (h : ∀ v' w', w'.ownsRow base 5 1 v' (n + m) (xs ++ news) → w.grownBy w' v.ownBlock → K (a.put o.dst v') w') :
    if Region.wanted o (yielded ops a.tmps) = true then Oper.wp Tryz.prog o a w K Q else E := by
  have hw : Region.wanted o (yielded ops a.tmps) = true := by simp [Region.wanted, hgd]
  rw [if_pos hw]
  exact wp_append_own w s x 50 ho base 5 i (.int .u8 0) 1 1 Tryz.underlying50 h2 h3 h4 h5 rfl (by decide) v n xs hs hown ad m c news hx (by omega) hc h1c (by unfold maxLen; omega) (by omega) hb fun v' w' h2 h3 _ => h v' w' h2 h3
set_option maxRecDepth 100000 in
set_option maxHeartbeats 2000000 in
theorem tell_in (W : World) (b : Nat) (p : List (BitVec 32)) (t : Nat) (hp : p.length ≤ 100) (h : W.heap[b]? = some (.cells (wc p) t (0, 0))) :
    Calls Tryz.prog 38 #[.slice (some ⟨b, 0, none⟩) p.length p.length] W fun e w' => e = .returned (.string ⟨(p.flatMap b4).toArray⟩) ∧ Below W.heap.size W w' := by
  obtain ⟨i0, hi, hz0, hz1, hz2⟩ := info_of info5
  obtain ⟨n, hn⟩ : ∃ n, p.length = n := ⟨_, rfl⟩
  have HP : Hid (p.length = n) := hn
  have hn2 : n ≤ 100 := by omega
  have H := Hid.mk h
  have hwb : b < W.heap.size := box_lt h
  rw [hn]
  clear hn hp h
  go_enter Tryz.func38, Tryz.ntmps38
  go_wp2_with fail
  go_loopw [3, 4] (fun v i wr => ∃ m : Nat, m ≤ n ∧ i = .int .i64 m ∧ wr.ownsRow W.heap.size 5 1 v (4 * m) (bcl ((p.take m).flatMap b4)) ∧ Below W.heap.size W wr) (fun _ i _ => n - (intOf i).toNat)
  case atStart => exact ⟨0, by omega, rfl, ⟨rfl, .inl ⟨rfl, rfl⟩⟩, Below.refl _ _⟩
  case round =>
    obtain ⟨m, hm, rfl, hown, hbl⟩ := hrel
    have HO := Hid.mk hown
    have hsz := hbl.size
    by_cases hlt : m < n
    · have hc : wr.cell? ⟨b, m, none⟩ = some (.int .u32 ((p[m]?.getD 0).toNat : Int)) := (hbl.cell (p := ⟨b, m, none⟩) hwb).trans (cells_at H.out (by rw [wc_at, List.getElem?_eq_getElem (by have := HP.out; omega)]; rfl)).1
      have HN : Hid ((p.take (m + 1)).flatMap b4 = (p.take m).flatMap b4 ++ b4 (p[m]?.getD 0)) := by
        rw [Hid, List.take_add_one, List.flatMap_append, List.getElem?_eq_getElem (by have := HP.out; omega)]
        simp
      have HCW : Hid (W.cell? ⟨b, m, none⟩ = some (.int .u32 ((p[m]?.getD 0).toNat : Int))) := (cells_at H.out (by rw [wc_at, List.getElem?_eq_getElem (by have := HP.out; omega)]; rfl)).1
      generalize p[m]?.getD 0 = x at hc HN HCW
      have hxl := bv_lt x
      have HB4 : Hid (bcl (b4 x) = [.int .u8 (IntKind.u8.wrap ((x.toNat : Int) / 16777216)), .int .u8 (IntKind.u8.wrap ((x.toNat : Int) / 65536)), .int .u8 (IntKind.u8.wrap ((x.toNat : Int) / 256)), .int .u8 (IntKind.u8.wrap (x.toNat : Int))]) := by
        rw [Hid, bcl_b4 x]
        simp only [IntKind.wrap_u8]
        rw [Int.emod_eq_of_lt (a := (x.toNat : Int) / 16777216) (by omega) (by omega)]
      have HKA : Hid (∀ o : Obj, ((wr.alloc o).drew).cell? ⟨b, m, none⟩ = some (.int .u32 (x.toNat : Int))) := fun o => ((hbl.alloc hbl.size o).cell (p := ⟨b, m, none⟩) hwb).trans HCW.out
      have im : (m : Int) < (n : Int) := by omega
      have im0 : (0 : Int) ≤ (m : Int) := by omega
      clear hown
      go_wp2_with fail
      go_region_held3 (fun w' => w'.cell? ⟨b, m, none⟩ = some (.int .u32 (x.toNat : Int))) (first | assumption | exact HKA.out _ | go_keep)
        (first
          | (refine step_append_own rfl (.tmp 11) (.tmp 35) rfl W.heap.size i0 hi hz0 hz1 hz2 _ (4 * m) _ rfl (HO.out.drew.alloc _) ⟨wr.heap.size, 0, none⟩ 4 4 [.int .u8 (IntKind.u8.wrap ((x.toNat : Int) / 16777216)), .int .u8 (IntKind.u8.wrap ((x.toNat : Int) / 65536)), .int .u8 (IntKind.u8.wrap ((x.toNat : Int) / 256)), .int .u8 (IntKind.u8.wrap (x.toNat : Int))] rfl rfl (fun j u h => cells_new wr.drew _ 5 j u h) (by simp [Value.oneCell']) (by omega) (by omega) (by simp; omega) ?_; intro v1 w1 hown1 hgrow1; have B2 : Below W.heap.size W w1 := (hbl.drew.alloc hbl.size _).grown hgrow1 (Nat.le_trans hbl.size (by simp)) (fun k hk => (HO.out.lt k hk).1); have hcc : w1.cell? ⟨b, m, none⟩ = some (.int .u32 (x.toNat : Int)) := (B2.cell (p := ⟨b, m, none⟩) hwb).trans HCW.out))
      have hown2 : w1.ownsRow W.heap.size 5 1 v1 (4 * (m + 1)) (bcl ((p.take (m + 1)).flatMap b4)) := by
        rw [HN.out, bcl_app, HB4.out, Nat.mul_add]; exact hown1
      clear hown1 hgrow1
      go_wp2
      go_roundw
      case rel => exact ⟨m + 1, by omega, by go_num, hown2, B2⟩
      case measure => simp [intOf]; omega
    · obtain rfl : n = m := by omega
      have hcv := own_back_any HO.out (by rw [List.take_of_length_le (Nat.le_of_eq HP.out)]; exact flat_len p n HP.out)
      rw [List.take_of_length_le (Nat.le_of_eq HP.out)] at hcv
      clear hown
      go_wp2
      go_ret
      exact ⟨rfl, hbl⟩
end Go.Proofs.YtaiakpigljcjbaaGreatDoor.G

/- The document's Sum1. -/
namespace Go.Proofs.YtaiakpigljcjbaaGreatDoor.G
set_option linter.unusedVariables false
open Go.RowKit
theorem info31 : (Tryz.prog.info? 59).map (fun i => (i.zero, i.size, i.bytes)) = some (some (.int .u32 0), 1, 4) := by kernel_rfl
theorem made_row {w : World} {base g n : Nat} {e : TypeId} {xs : List Value} (h : w.ownsRow base e 1 (.slice (some ⟨g, 0, none⟩) n n) n xs) : w.heap[g]? = some (.cells xs.toArray e (0, 0)) := by
  rcases h.2 with ⟨hv, h0⟩ | ⟨g', cap', cur, hv, hb, hh, h1, h2, h3, h4⟩
  · cases hv
  · cases hv
    rw [hh]
    have : cur.toList.take (n * 1) = cur.toList := List.take_of_length_le (by rw [Array.length_toList]; omega)
    rw [this] at h4
    rw [← h4]
theorem made_words (n : Nat) : (madeCells (Value.int .u32 0).cells (n * 1)).toList = (List.replicate n (0 : BitVec 32)).map fun x => Value.int .u32 (x.toNat : Int) := by
  apply List.ext_getElem?
  intro k
  simp [madeCells, Value.cells, List.getElem?_replicate]
  by_cases hk : k < n
  · rw [if_pos hk, List.getElem?_range hk]
    simp [Nat.mod_one]
  · rw [if_neg hk, List.getElem?_eq_none (by simpa using hk)]
    rfl
theorem bv_notr (x : BitVec 32) : bits .xor .u32 (x.toNat : Int) 4294967295 = ((~~~x).toNat : Int) := by
  have h := bv_xor x 4294967295#32
  rw [show ((4294967295#32).toNat : Int) = 4294967295 from rfl] at h
  rw [h, ← BitVec.xor_allOnes]
  rfl
theorem cells5u {W : World} {b t : Nat} (s : S5) (h : W.heap[b]? = some (.cells (wc s.l) t (0, 0))) :
    (W.cell? ⟨b, 0, none⟩ = some (.int .u32 (s.a.toNat : Int)) ∧ W.cell? ⟨b, 1, none⟩ = some (.int .u32 (s.b.toNat : Int)) ∧ W.cell? ⟨b, 2, none⟩ = some (.int .u32 (s.c.toNat : Int)) ∧ W.cell? ⟨b, 3, none⟩ = some (.int .u32 (s.d.toNat : Int)) ∧ W.cell? ⟨b, 4, none⟩ = some (.int .u32 (s.e.toNat : Int))) ∧
    (W.frozen? ⟨b, 0, none⟩ = false ∧ W.frozen? ⟨b, 1, none⟩ = false ∧ W.frozen? ⟨b, 2, none⟩ = false ∧ W.frozen? ⟨b, 3, none⟩ = false ∧ W.frozen? ⟨b, 4, none⟩ = false) := cells5 s h
/-- what a round of SHA-1 adds, in the document's words. -/
theorem f1_a (m : Nat) (h : m < 20) (b c d : BitVec 32) : f1 m b c d = cho b c d ∧ k1 m = 0x5a827999#32 := ⟨if_pos h, if_pos h⟩
theorem f1_b (m : Nat) (h0 : ¬ m < 20) (h : m < 40) (b c d : BitVec 32) : f1 m b c d = b ^^^ c ^^^ d ∧ k1 m = 0x6ed9eba1#32 := by unfold f1 k1; rw [if_neg h0, if_pos h, if_neg h0, if_pos h]; exact ⟨rfl, rfl⟩
theorem f1_c (m : Nat) (h0 : ¬ m < 40) (h : m < 60) (b c d : BitVec 32) : f1 m b c d = maj b c d ∧ k1 m = 0x8f1bbcdc#32 := by unfold f1 k1; rw [if_neg (by omega), if_neg h0, if_pos h, if_neg (by omega), if_neg h0, if_pos h]; exact ⟨rfl, rfl⟩
theorem f1_d (m : Nat) (h0 : ¬ m < 60) (b c d : BitVec 32) : f1 m b c d = b ^^^ c ^^^ d ∧ k1 m = 0xca62c1d6#32 := by unfold f1 k1; rw [if_neg (by omega), if_neg (by omega), if_neg h0, if_neg (by omega), if_neg (by omega), if_neg h0]; exact ⟨rfl, rfl⟩

set_option maxRecDepth 100000 in
set_option maxHeartbeats 8000000 in
theorem rsum1_gen (s : ByteArray) (P : ByteArray) (n : Nat) (hP : P.size = 64 * n) (hn : n ≤ 2199023255553)
    (hpd : ∀ W : World, Calls Tryz.prog 35 #[.string s] W fun e w' => e = .returned (.string P) ∧ Below W.heap.size W w')
    (B : Nat → List UInt8) (hwd : ∀ (k i : Nat), k < n → i < 16 → ∀ W : World, Calls Tryz.prog 36 #[.string P, .int .i64 (((64 * k : Nat) : Int) + 4 * (i : Int))] W fun e w' => e = .returned (.int .u32 ((wd (B k) i).toNat : Int)) ∧ ∃ j, w' = W.drewN j)
    (S : Nat → Nat → List (BitVec 32)) (hS0 : ∀ k, S k 0 = []) (hSl : ∀ k m, (S k m).length = m) (hSs : ∀ k m, S k (m + 1) = S k m ++ [nx1 (B k) (S k m) m])
    (R : Nat → S5) (Q : Nat → Nat → S5) (hQ0 : ∀ k, Q k 0 = R k) (hQs : ∀ k m, Q k (m + 1) = st1 ((S k 80)[m]?.getD 0) m (Q k m))
    (hR0 : R 0 = ⟨0x67452301#32, 0xefcdab89#32, 0x98badcfe#32, 0x10325476#32, 0xc3d2e1f0#32⟩) (hRs : ∀ k, R (k + 1) = add5 (R k) (Q k 80))
    (T : List UInt8) (hT : ∀ (W : World) (b : Nat), W.heap[b]? = some (.cells (wc (R n).l) 59 (0, 0)) → Calls Tryz.prog 38 #[.slice (some ⟨b, 0, none⟩) 5 5] W fun e w' => e = .returned (.string ⟨T.toArray⟩) ∧ Below W.heap.size W w') (W : World) :
    Calls Tryz.prog 21 #[.string s] W fun e w' => e = .returned (.string ⟨T.toArray⟩) ∧ Below W.heap.size W w' := by
  obtain ⟨i0, hi, hz0, hz1, hz2⟩ := info_of info31
  obtain ⟨N, hN⟩ : ∃ N, P.size = N := ⟨_, rfl⟩
  have HNN : Hid (N = 64 * n) := by rw [Hid, ← hN]; exact hP
  have hNb : N ≤ 281474976710656 := by have := HNN.out; omega
  have HPD := Hid.mk hpd
  have HWD := Hid.mk hwd
  have HS0 := Hid.mk hS0
  have HSL := Hid.mk hSl
  have HSS := Hid.mk hSs
  have HQ0 := Hid.mk hQ0
  have HQS := Hid.mk hQs
  have HR0 := Hid.mk hR0
  have HRS := Hid.mk hRs
  have HT := Hid.mk hT
  clear hpd hwd hSl hSs hQ0 hQs hR0 hRs hT hS0 hP
  go_enter Tryz.func21, Tryz.ntmps21
  go_wp2_with fail
  refine (HPD.out _).mono ?_
  rintro e W1 ⟨rfl, hb1⟩
  have G0 : W1.heap[W.heap.size]? = some (.cells (wc (R 0).l) 59 (0, 0)) := by
    rw [hb1.block _ (by simp), heap_new, HR0.out]
    rfl
  have HB1 : Below W.heap.size W W1 := bthen ((Below.refl _ _).alloc (Nat.le_refl _) _) hb1
  have HG0 := Hid.mk G0
  clear G0 hb1
  go_wp2_with fail
  go_loopw [5] (fun i wr => ∃ k a : Nat, Hid (a = 64 * k) ∧ k ≤ n ∧ i = .int .i64 (a : Int) ∧ wr.heap[W.heap.size]? = some (.cells (wc (R k).l) 59 (0, 0)) ∧ Below W.heap.size W wr) (fun i _ => N - (intOf i).toNat)
  case atStart => exact ⟨0, 0, rfl, by omega, rfl, HG0.out, HB1⟩
  case round =>
    obtain ⟨k, a, HA, hkn, rfl, h0, hbl⟩ := hrel
    have H0 := Hid.mk h0
    clear h0
    by_cases hlt : a < N
    · have hk : k < n := by have := HA.out; have := HNN.out; omega
      have HWK : Hid (∀ (i : Nat), i < 16 → ∀ W : World, Calls Tryz.prog 36 #[.string P, .int .i64 ((a : Int) + 4 * (i : Int))] W fun e w' => e = .returned (.int .u32 ((wd (B k) i).toNat : Int)) ∧ ∃ j, w' = W.drewN j) := fun i hi W => by
        rw [HA.out]; exact HWD.out k i hk hi W
      go_wp2_with (at_make; refine wpList_make_full _ rfl _ _ 60 rfl wr.heap.size 59 i0 (.int .u32 0) 1 Tryz.underlying60 hi hz0 hz1 _ _ _ _ 80 rfl rfl rfl rfl (by rw [hz2]; omega) (by unfold maxLen; omega) (Nat.le_refl _) ?_; intro w1 hown1 hgrow1)
      have Bm : Below wr.heap.size wr w1 := (Below.refl _ _).grown hgrow1 (Nat.le_refl _) (by simp)
      rw [made_words] at hown1
      have G1 : Hid (w1.heap[wr.heap.size]? = some (.cells (wc (fill (S k 0) 80)) 59 (0, 0))) := by rw [HS0.out]; exact made_row hown1
      have K0 : Hid (w1.heap[W.heap.size]? = _) := (Bm.block _ (box_lt H0.out)).trans H0.out
      have KB : Below W.heap.size W w1 := bthen hbl Bm
      have hgw : W.heap.size < wr.heap.size := box_lt H0.out
      clear hown1 hgrow1 Bm H0 hbl
      generalize wr.heap.size = g at G1 hgw ⊢
      go_wp2_with fail
      go_loopw [7] (fun i wr => ∃ m : Nat, m ≤ 80 ∧ i = .int .i64 m ∧ wr.heap[g]? = some (.cells (wc (fill (S k m) 80)) 59 (0, 0)) ∧ wr.heap[W.heap.size]? = some (.cells (wc (R k).l) 59 (0, 0)) ∧ Below W.heap.size W wr) (fun i _ => 80 - (intOf i).toNat)
      case atStart => exact ⟨0, by omega, rfl, G1.out, K0.out, KB⟩
      case round =>
        obtain ⟨m, hm, rfl, h3, h0, hbl⟩ := hrel
        have H3 := Hid.mk h3
        have H0 := Hid.mk h0
        by_cases hlt2 : m < 80
        · have hlen := HSL.out k m
          have HN : Hid (fill (S k (m + 1)) 80 = (fill (S k m) 80).set m (nx1 (B k) (S k m) m)) := by
            have := fill_set (S k m) 80 (by omega) (nx1 (B k) (S k m) m)
            rw [hlen] at this
            rw [Hid, this, HSS.out]
          obtain ⟨xm, hc, hf⟩ := fill_free h3 (by omega) m hlt2
          have um : (m : Int) < 80 := by omega
          by_cases h16 : m < 16
          · have hx : nx1 (B k) (S k m) m = wd (B k) m := if_pos h16
            rw [hx] at HN
            have HWM := Hid.mk (HWK.out m h16)
            clear h3 h0 hx hlen
            go_wp2_with fail
            refine (HWM.out _).mono ?_
            rintro e w1 ⟨rfl, j, rfl⟩
            have hc1 : (wr.drewN j).cell? ⟨g, m, none⟩ = _ := hc
            have hf1 : (wr.drewN j).frozen? ⟨g, m, none⟩ = false := hf
            go_wp2
            go_roundw
            case rel =>
              refine ⟨m + 1, by omega, by go_num, ?_, ?_, ?_⟩
              · rw [HN.out, ← wc_set]; exact cells_put (W := wr.drewN j) H3.out _
              · rw [Below.heap_setCell _ _ _ _ (by show W.heap.size ≠ g; omega)]; exact H0.out
              · exact Below.setCell (hbl.trans ((below_dn wr j).mono hbl.size)) (by show W.heap.size ≤ g; omega) _
            case measure => simp [intOf]; omega
          · have c3 := fill_cell h3 (m - 3) (by omega)
            have c8 := fill_cell h3 (m - 8) (by omega)
            have c14 := fill_cell h3 (m - 14) (by omega)
            have c16 := fill_cell h3 (m - 16) (by omega)
            have hx : nx1 (B k) (S k m) m = rol ((S k m)[m - 3]?.getD 0 ^^^ (S k m)[m - 8]?.getD 0 ^^^ (S k m)[m - 14]?.getD 0 ^^^ (S k m)[m - 16]?.getD 0) 1 := if_neg h16
            rw [hx] at HN
            generalize (S k m)[m - 3]?.getD 0 = x3 at c3 HN
            generalize (S k m)[m - 8]?.getD 0 = x8 at c8 HN
            generalize (S k m)[m - 14]?.getD 0 = x14 at c14 HN
            generalize (S k m)[m - 16]?.getD 0 = x16 at c16 HN
            have k3 : ((m : Int) - 3).toNat = m - 3 := by omega
            have k8 : ((m : Int) - 8).toNat = m - 8 := by omega
            have k14 : ((m : Int) - 14).toNat = m - 14 := by omega
            have k16 : ((m : Int) - 16).toNat = m - 16 := by omega
            have n3 : (3 : Int) ≤ (m : Int) := by omega
            have l3 : (0 : Int) ≤ (m : Int) - 3 := by omega
            have u3 : (m : Int) - 3 < 80 := by omega
            have v3 : (m : Int) < 80 + 3 := by omega
            have w3 : IntKind.i64.wrap ((m : Int) - 3) = (m : Int) - 3 := by rw [IntKind.wrap_i64]; omega
            have n8 : (8 : Int) ≤ (m : Int) := by omega
            have l8 : (0 : Int) ≤ (m : Int) - 8 := by omega
            have u8 : (m : Int) - 8 < 80 := by omega
            have v8 : (m : Int) < 80 + 8 := by omega
            have w8 : IntKind.i64.wrap ((m : Int) - 8) = (m : Int) - 8 := by rw [IntKind.wrap_i64]; omega
            have n14 : (14 : Int) ≤ (m : Int) := by omega
            have l14 : (0 : Int) ≤ (m : Int) - 14 := by omega
            have u14 : (m : Int) - 14 < 80 := by omega
            have v14 : (m : Int) < 80 + 14 := by omega
            have w14 : IntKind.i64.wrap ((m : Int) - 14) = (m : Int) - 14 := by rw [IntKind.wrap_i64]; omega
            have n16 : (16 : Int) ≤ (m : Int) := by omega
            have l16 : (0 : Int) ≤ (m : Int) - 16 := by omega
            have u16 : (m : Int) - 16 < 80 := by omega
            have v16 : (m : Int) < 80 + 16 := by omega
            have w16 : IntKind.i64.wrap ((m : Int) - 16) = (m : Int) - 16 := by rw [IntKind.wrap_i64]; omega
            have HKp : Hid (∀ (W : World) (v : Value), W.cell? ⟨g, m - 3, none⟩ = some (.int .u32 (x3.toNat : Int)) → W.cell? ⟨g, m - 8, none⟩ = some (.int .u32 (x8.toNat : Int)) → W.cell? ⟨g, m - 14, none⟩ = some (.int .u32 (x14.toNat : Int)) → W.cell? ⟨g, m - 16, none⟩ = some (.int .u32 (x16.toNat : Int)) → (W.setCell ⟨g, m, none⟩ v).cell? ⟨g, m - 3, none⟩ = some (.int .u32 (x3.toNat : Int)) ∧ (W.setCell ⟨g, m, none⟩ v).cell? ⟨g, m - 8, none⟩ = some (.int .u32 (x8.toNat : Int)) ∧ (W.setCell ⟨g, m, none⟩ v).cell? ⟨g, m - 14, none⟩ = some (.int .u32 (x14.toNat : Int)) ∧ (W.setCell ⟨g, m, none⟩ v).cell? ⟨g, m - 16, none⟩ = some (.int .u32 (x16.toNat : Int))) := fun W v a1 a2 a3 a4 =>
              ⟨(cell_put_ne W _ _ _ v (by omega)).trans a1, (cell_put_ne W _ _ _ v (by omega)).trans a2, (cell_put_ne W _ _ _ v (by omega)).trans a3, (cell_put_ne W _ _ _ v (by omega)).trans a4⟩
            have hb : bits .xor .u32 (bits .xor .u32 (bits .xor .u32 (x3.toNat : Int) (x8.toNat : Int)) (x14.toNat : Int)) (x16.toNat : Int) = ((x3 ^^^ x8 ^^^ x14 ^^^ x16).toNat : Int) := by rw [bv_xor, bv_xor, bv_xor]
            have HLF := Hid.mk (fun W => rleft_in (x3 ^^^ x8 ^^^ x14 ^^^ x16) 1 (by omega) (by omega) W)
            generalize x3 ^^^ x8 ^^^ x14 ^^^ x16 = x at hb HLF HN
            clear h3 h0 hx hlen
            go_wp2_with fail
            go_region_held3 (fun w' => w'.cell? ⟨g, m - 3, none⟩ = some (.int .u32 (x3.toNat : Int)) ∧ w'.cell? ⟨g, m - 8, none⟩ = some (.int .u32 (x8.toNat : Int)) ∧ w'.cell? ⟨g, m - 14, none⟩ = some (.int .u32 (x14.toNat : Int)) ∧ w'.cell? ⟨g, m - 16, none⟩ = some (.int .u32 (x16.toNat : Int))) (first | exact HKp.out _ _ (by assumption) (by assumption) (by assumption) (by assumption) | ((repeat' apply And.intro) <;> assumption) | go_keep)
              (first
                | (go_at_call 37; refine (HLF.out _).mono ?_; rintro e w2 ⟨rfl, j, rfl⟩))
            rename_i hHeld
            clear hHeld
            go_wp2
            go_roundw
            case rel =>
              refine ⟨m + 1, by omega, by go_num, ?_, ?_, ?_⟩
              · rw [HN.out, ← wc_set]; exact cells_put (W := wr.drewN (1 + j)) H3.out _
              · rw [Below.heap_setCell _ _ _ _ (by show W.heap.size ≠ g; omega)]; exact H0.out
              · exact Below.setCell (hbl.trans ((below_dn wr (1 + j)).mono hbl.size)) (by show W.heap.size ≤ g; omega) _
            case measure => simp [intOf]; omega
        · obtain rfl : m = 80 := by omega
          rw [fill_all _ _ (HSL.out k 80)] at H3
          have HWL := Hid.mk (HSL.out k 80)
          have HQK := Hid.mk (HQS.out k)
          have HQZ := Hid.mk (HQ0.out k)
          have HRK := Hid.mk (HRS.out k)
          obtain ⟨⟨c0, c1, c2, c3, c4⟩, f0, f1', f2, f3, f4⟩ := cells5u (R k) h0
          clear h3 h0 HWK HQS HQ0 HRS HSS HS0 HWD
          generalize S k 80 = ws at H3 HWL HQK
          generalize Q k = q at HQK HQZ HRK
          go_wp2_with fail
          clear c0 c1 c2 c3 c4 f0 f1' f2 f3 f4
          go_loopw [8, 9, 10, 11, 12, 13] (fun a b c d e i w2 => ∃ t dn : Nat, t ≤ 80 ∧ i = .int .i64 t ∧ a = .int .u32 ((q t).a.toNat : Int) ∧ b = .int .u32 ((q t).b.toNat : Int) ∧ c = .int .u32 ((q t).c.toNat : Int) ∧ d = .int .u32 ((q t).d.toNat : Int) ∧ e = .int .u32 ((q t).e.toNat : Int) ∧ w2 = wr.drewN dn) (fun _ _ _ _ _ i _ => 80 - (intOf i).toNat)
          case atStart => exact ⟨0, 0, by omega, rfl, by rw [HQZ.out], by rw [HQZ.out], by rw [HQZ.out], by rw [HQZ.out], by rw [HQZ.out], rfl⟩
          case round =>
            obtain ⟨t, dn, ht, rfl, rfl, rfl, rfl, rfl, rfl, rfl⟩ := hrel
            by_cases hlt3 : t < 80
            · have hcw : (wr.drewN dn).cell? ⟨g, t, none⟩ = some (.int .u32 ((ws[t]?.getD 0).toNat : Int)) := (cells_at (W := wr.drewN dn) H3.out (by rw [wc_at, List.getElem?_eq_getElem (by have := HWL.out; omega)]; rfl)).1
              have HN : Hid (q (t + 1) = ⟨rol (q t).a 5 + f1 t (q t).b (q t).c (q t).d + (q t).e + k1 t + ws[t]?.getD 0, (q t).a, rol (q t).b 30, (q t).c, (q t).d⟩) := HQK.out t
              generalize ws[t]?.getD 0 = x at hcw HN
              generalize (q t).a = ya at HN ⊢
              generalize (q t).b = yb at HN ⊢
              generalize (q t).c = yc at HN ⊢
              generalize (q t).d = yd at HN ⊢
              generalize (q t).e = ye at HN ⊢
              have HA : Hid (∀ W : World, Calls Tryz.prog 37 #[.int .u32 (ya.toNat : Int), .int .i64 5] W fun e w' => e = .returned (.int .u32 ((rol ya 5).toNat : Int)) ∧ ∃ j, w' = W.drewN j) := fun W => rleft_in ya 5 (by omega) (by omega) W
              have HB : Hid (∀ W : World, Calls Tryz.prog 37 #[.int .u32 (yb.toNat : Int), .int .i64 30] W fun e w' => e = .returned (.int .u32 ((rol yb 30).toNat : Int)) ∧ ∃ j, w' = W.drewN j) := fun W => rleft_in yb 30 (by omega) (by omega) W
              generalize rol ya 5 = a5 at HA HN
              generalize rol yb 30 = b30 at HB HN
              have ut : (t : Int) < 80 := by omega
              obtain ⟨V, HV⟩ : ∃ V, Hid (wr.drewN dn = V) := ⟨_, rfl⟩
              rw [HV.out] at hcw ⊢
              by_cases h20 : t < 20
              · obtain ⟨e1, e2⟩ := f1_a t h20 yb yc yd
                rw [e1, e2] at HN
                have hfb : bits .or .u32 (bits .and .u32 (yb.toNat : Int) (yc.toNat : Int)) (bits .and .u32 (bits .xor .u32 (yb.toNat : Int) 4294967295) (yd.toNat : Int)) = ((cho yb yc yd).toNat : Int) := by rw [bv_and, bv_notr, bv_and, bv_or]; rfl
                have hk : ((0x5a827999#32).toNat : Int) = 1518500249 := rfl
                have hsum := add5w a5 (cho yb yc yd) ye 0x5a827999#32 x
                rw [hk] at hsum
                generalize cho yb yc yd = f at hfb HN hsum
                clear e1 e2 hk
                have HSUM := Hid.mk hsum
                clear hsum
                go_wp2_with fail
                go_quiet (first
                  | (go_at_call 37; with_reducible refine (HA.out _).mono ?_; exact fun _ _ hh => ⟨hh.1, hh.2.elim fun j hj => ⟨_, hj.trans (drew_add _ _ _)⟩⟩))
                go_wp2_with fail
                refine (HB.out _).mono ?_
                rintro e3 w3 ⟨rfl, j2, rfl⟩
                go_wp2
                go_roundw
                case rel =>
                  (repeat apply Exists.intro)
                  refine ⟨?rl, ?fr⟩
                  case fr => exact rfl
                  case rl =>
                    refine ⟨t + 1, dn + (nq + j2), by omega, by go_num, ?_, by rw [HN.out], by rw [HN.out], by rw [HN.out], by rw [HN.out], ?_⟩
                    · rw [HN.out, ← HSUM.out]
                    · rw [← HV.out, drew_add]
                case measure => simp [intOf]; omega
              · skip
                by_cases h40 : t < 40
                · obtain ⟨e1, e2⟩ := f1_b t h20 h40 yb yc yd
                  rw [e1, e2] at HN
                  have hfb : bits .xor .u32 (bits .xor .u32 (yb.toNat : Int) (yc.toNat : Int)) (yd.toNat : Int) = ((yb ^^^ yc ^^^ yd).toNat : Int) := by rw [bv_xor, bv_xor]
                  have hk : ((0x6ed9eba1#32).toNat : Int) = 1859775393 := rfl
                  have hsum := add5w a5 (yb ^^^ yc ^^^ yd) ye 0x6ed9eba1#32 x
                  rw [hk] at hsum
                  generalize yb ^^^ yc ^^^ yd = f at hfb HN hsum
                  clear e1 e2 hk
                  have HSUM := Hid.mk hsum
                  clear hsum
                  go_wp2_with fail
                  go_quiet (first
                    | (go_at_call 37; with_reducible refine (HA.out _).mono ?_; exact fun _ _ hh => ⟨hh.1, hh.2.elim fun j hj => ⟨_, hj.trans (drew_add _ _ _)⟩⟩))
                  go_wp2_with fail
                  refine (HB.out _).mono ?_
                  rintro e3 w3 ⟨rfl, j2, rfl⟩
                  go_wp2
                  go_roundw
                  case rel =>
                    (repeat apply Exists.intro)
                    refine ⟨?rl, ?fr⟩
                    case fr => exact rfl
                    case rl =>
                      refine ⟨t + 1, dn + (nq + j2), by omega, by go_num, ?_, by rw [HN.out], by rw [HN.out], by rw [HN.out], by rw [HN.out], ?_⟩
                      · rw [HN.out, ← HSUM.out]
                      · rw [← HV.out, drew_add]
                  case measure => simp [intOf]; omega
                · skip
                  by_cases h60 : t < 60
                  · obtain ⟨e1, e2⟩ := f1_c t h40 h60 yb yc yd
                    rw [e1, e2] at HN
                    have hfb : bits .or .u32 (bits .or .u32 (bits .and .u32 (yb.toNat : Int) (yc.toNat : Int)) (bits .and .u32 (yb.toNat : Int) (yd.toNat : Int))) (bits .and .u32 (yc.toNat : Int) (yd.toNat : Int)) = ((maj yb yc yd).toNat : Int) := by rw [bv_and, bv_and, bv_or, bv_and, bv_or]; rfl
                    have hk : ((0x8f1bbcdc#32).toNat : Int) = 2400959708 := rfl
                    have hsum := add5w a5 (maj yb yc yd) ye 0x8f1bbcdc#32 x
                    rw [hk] at hsum
                    generalize maj yb yc yd = f at hfb HN hsum
                    clear e1 e2 hk
                    have HSUM := Hid.mk hsum
                    clear hsum
                    go_wp2_with fail
                    go_quiet (first
                      | (go_at_call 37; with_reducible refine (HA.out _).mono ?_; exact fun _ _ hh => ⟨hh.1, hh.2.elim fun j hj => ⟨_, hj.trans (drew_add _ _ _)⟩⟩))
                    go_wp2_with fail
                    refine (HB.out _).mono ?_
                    rintro e3 w3 ⟨rfl, j2, rfl⟩
                    go_wp2
                    go_roundw
                    case rel =>
                      (repeat apply Exists.intro)
                      refine ⟨?rl, ?fr⟩
                      case fr => exact rfl
                      case rl =>
                        refine ⟨t + 1, dn + (nq + j2), by omega, by go_num, ?_, by rw [HN.out], by rw [HN.out], by rw [HN.out], by rw [HN.out], ?_⟩
                        · rw [HN.out, ← HSUM.out]
                        · rw [← HV.out, drew_add]
                    case measure => simp [intOf]; omega
                  · skip
                    obtain ⟨e1, e2⟩ := f1_d t h60 yb yc yd
                    rw [e1, e2] at HN
                    have hfb : bits .xor .u32 (bits .xor .u32 (yb.toNat : Int) (yc.toNat : Int)) (yd.toNat : Int) = ((yb ^^^ yc ^^^ yd).toNat : Int) := by rw [bv_xor, bv_xor]
                    have hk : ((0xca62c1d6#32).toNat : Int) = 3395469782 := rfl
                    have hsum := add5w a5 (yb ^^^ yc ^^^ yd) ye 0xca62c1d6#32 x
                    rw [hk] at hsum
                    generalize yb ^^^ yc ^^^ yd = f at hfb HN hsum
                    clear e1 e2 hk
                    have HSUM := Hid.mk hsum
                    clear hsum
                    go_wp2_with fail
                    go_quiet (first
                      | (go_at_call 37; with_reducible refine (HA.out _).mono ?_; exact fun _ _ hh => ⟨hh.1, hh.2.elim fun j hj => ⟨_, hj.trans (drew_add _ _ _)⟩⟩))
                    go_wp2_with fail
                    refine (HB.out _).mono ?_
                    rintro e3 w3 ⟨rfl, j2, rfl⟩
                    go_wp2
                    go_roundw
                    case rel =>
                      (repeat apply Exists.intro)
                      refine ⟨?rl, ?fr⟩
                      case fr => exact rfl
                      case rl =>
                        refine ⟨t + 1, dn + (nq + j2), by omega, by go_num, ?_, by rw [HN.out], by rw [HN.out], by rw [HN.out], by rw [HN.out], ?_⟩
                        · rw [HN.out, ← HSUM.out]
                        · rw [← HV.out, drew_add]
                    case measure => simp [intOf]; omega
            · obtain rfl : t = 80 := by omega
              obtain ⟨⟨c0, c1, c2, c3, c4⟩, f0, f1', f2, f3, f4⟩ := cells5u (W := wr.drewN dn) (R k) H0.out
              have q0 := bm_add (R k).a (q 80).a
              have q1 := bm_add (R k).b (q 80).b
              have q2 := bm_add (R k).c (q 80).c
              have q3 := bm_add (R k).d (q 80).d
              have q4 := bm_add (R k).e (q 80).e
              have HB2 : Below W.heap.size W (wr.drewN dn) := hbl.trans ((below_dn wr dn).mono hbl.size)
              have K0 : Hid ((wr.drewN dn).heap[W.heap.size]? = _) := H0.out
              have HPT := Hid.mk (put5 (R k) (R (k + 1)) K0.out)
              have e0 : (R (k + 1)).a = (R k).a + (q 80).a := by rw [HRK.out]; rfl
              have e1 : (R (k + 1)).b = (R k).b + (q 80).b := by rw [HRK.out]; rfl
              have e2 : (R (k + 1)).c = (R k).c + (q 80).c := by rw [HRK.out]; rfl
              have e3 : (R (k + 1)).d = (R k).d + (q 80).d := by rw [HRK.out]; rfl
              have e4 : (R (k + 1)).e = (R k).e + (q 80).e := by rw [HRK.out]; rfl
              rw [e0, e1, e2, e3, e4] at HPT
              clear e0 e1 e2 e3 e4
              clear H0 H3 K0 HQK HQZ HRK HWL hbl
              generalize wr.drewN dn = V at c0 c1 c2 c3 c4 f0 f1' f2 f3 f4 HB2 HPT ⊢
              generalize (R k).a + (q 80).a = s0 at q0 HPT
              generalize (R k).b + (q 80).b = s1 at q1 HPT
              generalize (R k).c + (q 80).c = s2 at q2 HPT
              generalize (R k).d + (q 80).d = s3 at q3 HPT
              generalize (R k).e + (q 80).e = s4 at q4 HPT
              generalize (R k).a = r0 at c0 q0
              generalize (R k).b = r1 at c1 q1
              generalize (R k).c = r2 at c2 q2
              generalize (R k).d = r3 at c3 q3
              generalize (R k).e = r4 at c4 q4
              generalize (q 80).a = p0 at q0 ⊢
              generalize (q 80).b = p1 at q1 ⊢
              generalize (q 80).c = p2 at q2 ⊢
              generalize (q 80).d = p3 at q3 ⊢
              generalize (q 80).e = p4 at q4 ⊢
              go_wp2
              go_roundw
              case rel =>
                refine ⟨k + 1, a + 64, by rw [Hid, HA.out]; omega, by omega, by go_num, ?_, ?_⟩
                · exact HPT.out
                · exact ((((HB2.setCell (Nat.le_refl _) _).setCell (Nat.le_refl _) _).setCell (Nat.le_refl _) _).setCell (Nat.le_refl _) _).setCell (Nat.le_refl _) _
              case measure => simp [intOf]; omega
    · have hkn2 : k = n := by have := HA.out; have := HNN.out; omega
      rw [hkn2] at H0
      have HTT := Hid.mk (HT.out wr W.heap.size H0.out)
      clear HA hkn2 hkn HNN
      go_wp2_with fail
      refine HTT.out.mono ?_
      rintro e w3 ⟨rfl, hb3⟩
      go_wp2
      go_ret
      exact ⟨rfl, bthen hbl hb3⟩
end Go.Proofs.YtaiakpigljcjbaaGreatDoor.G

/- The document's Sum256. -/
namespace Go.Proofs.YtaiakpigljcjbaaGreatDoor.G
set_option linter.unusedVariables false
open Go.RowKit
theorem cho_xor (e f g : BitVec 32) : (e &&& f) ^^^ (~~~e &&& g) = cho e f g := by
  apply BitVec.eq_of_getLsbD_eq
  intro i hi
  simp only [cho, BitVec.getLsbD_xor, BitVec.getLsbD_and, BitVec.getLsbD_or, BitVec.getLsbD_not, hi]
  cases e.getLsbD i <;> cases f.getLsbD i <;> cases g.getLsbD i <;> rfl
theorem maj_xor (a b c : BitVec 32) : (a &&& b) ^^^ (a &&& c) ^^^ (b &&& c) = maj a b c := by
  apply BitVec.eq_of_getLsbD_eq
  intro i hi
  simp only [maj, BitVec.getLsbD_xor, BitVec.getLsbD_and, BitVec.getLsbD_or]
  cases a.getLsbD i <;> cases b.getLsbD i <;> cases c.getLsbD i <;> rfl
theorem cell_of {W : World} {b t k : Nat} {p : List (BitVec 32)} (h : W.heap[b]? = some (.cells (wc p) t (0, 0))) (hk : k < p.length) : W.cell? ⟨b, k, none⟩ = some (.int .u32 ((p[k]?.getD 0).toNat : Int)) :=
  (cells_at h (by rw [wc_at, List.getElem?_eq_getElem hk]; rfl)).1
theorem wc_list (p : List (BitVec 32)) : wc p = (p.map fun x => Value.int .u32 (x.toNat : Int)).toArray := rfl
theorem splice_all {α : Type} (L cs : List α) (h : cs.length = L.length) : splice L 0 cs = cs := by
  unfold splice
  rw [List.take_zero, List.nil_append, Nat.zero_add, h, List.drop_length, List.append_nil]

end Go.Proofs.YtaiakpigljcjbaaGreatDoor.G

/- The document's Sum1 and Sum256. -/
namespace Go.Proofs.YtaiakpigljcjbaaGreatDoor.G
set_option linter.unusedVariables false
open Go.RowKit
theorem padL_len (l : List UInt8) : (padL l).length = 64 * nb l.length := by simp [padL]
theorem pad_blk (l : List UInt8) (k j : Nat) (hk : k < nb l.length) (hj : j < 64) : (padL l)[64 * k + j]?.getD 0 = (blk l k)[j]?.getD 0 := by
  rw [blk_at l k j hj, padL, List.getElem?_map, List.getElem?_range (by omega)]
  rfl
theorem pad_wd (l : List UInt8) (k i : Nat) (hk : k < nb l.length) (hi : i < 16) : w4 ((padL l)[64 * k + 4 * i]?.getD 0) ((padL l)[64 * k + 4 * i + 1]?.getD 0) ((padL l)[64 * k + 4 * i + 2]?.getD 0) ((padL l)[64 * k + 4 * i + 3]?.getD 0) = wd (blk l k) i := by
  unfold wd
  rw [Nat.add_assoc, Nat.add_assoc, Nat.add_assoc, pad_blk l k (4 * i) hk (by omega), pad_blk l k (4 * i + 1) hk (by omega), pad_blk l k (4 * i + 2) hk (by omega), pad_blk l k (4 * i + 3) hk (by omega)]
/-- a word of the padded text. -/
theorem word_pad (s : ByteArray) (hs : s.size ≤ 140737488351232) (k i : Nat) (hk : k < nb s.size) (hi : i < 16) (W : World) :
    Calls Tryz.prog 36 #[.string ⟨(padL s.data.toList).toArray⟩, .int .i64 (((64 * k : Nat) : Int) + 4 * (i : Int))] W fun e w' => e = .returned (.int .u32 ((wd (blk s.data.toList k) i).toNat : Int)) ∧ ∃ j, w' = W.drewN j := by
  have hsz : (⟨(padL s.data.toList).toArray⟩ : ByteArray).size = 64 * nb s.size := by rw [ba_size, padL_len, size_list]
  have hb : nb s.size ≤ 2199023255553 := by unfold nb; omega
  have h := rword_in ⟨(padL s.data.toList).toArray⟩ (64 * k + 4 * i) (by omega) (by omega) W
  rw [show ((64 * k : Nat) : Int) + 4 * (i : Int) = ((64 * k + 4 * i : Nat) : Int) by omega, ← pad_wd s.data.toList k i (by rw [size_list]; exact hk) hi]
  exact h
theorem rsum1_in (s : ByteArray) (hs : s.size ≤ 140737488351232) (W : World) :
    Calls Tryz.prog 21 #[.string s] W fun e w' => e = .returned (.string ⟨(sha1 s.data.toList).toArray⟩) ∧ Below W.heap.size W w' :=
  rsum1_gen s ⟨(padL s.data.toList).toArray⟩ (nb s.size) (by rw [ba_size, padL_len, size_list]) (by unfold nb; omega) (fun W => padded_in s hs W) (blk s.data.toList) (fun k i hk hi W => word_pad s hs k i hk hi W)
    (fun k m => sch1 (blk s.data.toList k) m) (fun k => rfl) (fun k m => sch1_len _ m) (fun k m => rfl) (go1 s.data.toList) (fun k m => rn1 (sch1 (blk s.data.toList k) 80) m (go1 s.data.toList k)) (fun k => rfl) (fun k m => rfl) rfl (fun k => rfl)
    (sha1 s.data.toList) (fun W b h => tell_in W b (go1 s.data.toList (nb s.size)).l 59 (by show 5 ≤ 100; omega) h) W
theorem mix_all (s t : S8) : mix s.l t.l 8 = (add8 s t).l := rfl
end Go.Proofs.YtaiakpigljcjbaaGreatDoor.G
