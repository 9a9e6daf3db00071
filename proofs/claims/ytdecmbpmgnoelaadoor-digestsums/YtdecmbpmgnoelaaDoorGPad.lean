/- The document's padded: bytes appended to what '[]byte(s)' made. -/
import Derived.ArgAppend
import Derived.Test.YtdecmbpmgnoelaaDoorGExam
namespace Go.Proofs.YtdecmbpmgnoelaaDoor
set_option linter.unusedVariables false
open Go.RowKit

/-- cells are stored, none of them marked. -/
theorem storeCells_clear (P : Program) (g o : Nat) (t : TypeId) (fz : Nat × Nat) (vs : List Value) : ∀ (i : Nat) (cur : Array Value) (w : World), w.heap[g]? = some (.cells cur t fz) → (fz.2 = 0 ∨ o + i + vs.length ≤ fz.1) → o + i + vs.length ≤ cur.size → (∀ v ∈ vs, v.oneCell' = true) →
    (storeCells ⟨g, o, none⟩ vs i).run P w = .ok () (w.setRow g (cur.toList.take (o + i) ++ vs ++ cur.toList.drop (o + i + vs.length)).toArray) := by
  induction vs with
  | nil =>
    intro i cur w hg _ _ _
    simp only [storeCells, List.append_nil, List.length_nil, Nat.add_zero, List.take_append_drop, Array.toArray_toList]
    rw [setRow_self w g cur t fz hg]
    rfl
  | cons v rest ih =>
    intro i cur w hg hfz hl h1
    rw [List.length_cons] at hfz hl
    have hi : o + i < cur.size := by omega
    have hadd : (⟨g, o, none⟩ : Addr).add i = ⟨g, o + i, none⟩ := Addr.add_lit ..
    have hcell : w.cell? ⟨g, o + i, none⟩ = some cur[o + i] := by simp [World.cell?, hg, hi]
    have hfro : w.frozen? ⟨g, o + i, none⟩ = false := by
      obtain ⟨lo, hi'⟩ := fz
      simp only [World.frozen?, hg, Bool.and_eq_false_iff, decide_eq_false_iff_not]
      simp only at hfz
      omega
    have hst : (store ((⟨g, o, none⟩ : Addr).add i) v).run P w = .ok () (w.setRow g (cur.setIfInBounds (o + i) v)) := by
      rw [hadd, run_store P w _ v _ (h1 v (by simp)), hcell]
      simp [hfro, setCell_eq_setRow w g (o + i) cur t fz v hg]
    have h2 := ih (i + 1) (cur.setIfInBounds (o + i) v) (w.setRow g (cur.setIfInBounds (o + i) v)) (setRow_heap w g cur _ t _ hg) (by omega) (by simp; omega) (fun x hx => h1 x (by simp [hx]))
    simp only [storeCells, Sem.run_bind, hst, Result.andThen_ok, h2, setRow_setRow]
    congr 3
    have e := list_seg_step cur.toList (o + i) v rest (by simp; omega)
    simpa [Array.toList_setIfInBounds, Nat.add_assoc] using e

/-- a row of bytes of one's own, its mark, if any, behind all its cells. -/
def OwnsC (w : World) (base : Nat) (v : Value) (xs : List UInt8) : Prop :=
  ∃ g cap cur fz, v = .slice (some ⟨g, 0, none⟩) xs.length cap ∧ base ≤ g ∧ w.heap[g]? = some (.cells cur 5 fz) ∧ (fz.2 = 0 ∨ cap ≤ fz.1) ∧ xs.length ≤ cap ∧ cap ≤ maxLen ∧ cur.size = cap ∧ cur.toList.take xs.length = bcl xs

theorem OwnsC.lt {w : World} {base : Nat} {v : Value} {xs : List UInt8} (h : OwnsC w base v xs) : ∀ k, v.ownBlock = some k → base ≤ k := by
  obtain ⟨g, cap, cur, fz, rfl, hb, _⟩ := h
  intro k hk
  simp [Value.ownBlock] at hk
  omega
theorem OwnsC.conv (w : World) (s : ByteArray) (hs : s.size ≤ maxLen) : OwnsC (Lib.bytesWorld w 5 s) w.heap.size (.slice (some ⟨w.heap.size, 0, none⟩) s.size (grownCap w s.size 0 5)) s.data.toList := by
  have hge := grownCap_ge w s.size 0 5
  have hz : (Lib.bytesCells w 5 s).size = grownCap w s.size 0 5 := by simp [Lib.bytesCells]; omega
  refine ⟨w.heap.size, grownCap w s.size 0 5, _, _, by rw [size_list], Nat.le_refl _, Lib.bytesWorld_at_new w 5 s, .inr (by rw [hz]; exact Nat.le_refl _), by rw [size_list]; exact hge, grownCap_le_maxLen w s.size 0 5 hs, hz, ?_⟩
  simp only [Lib.bytesCells, Array.toList_append, Array.toList_map, bcl]
  rw [List.take_append_of_le_length (by simp)]
  exact List.take_of_length_le (by simp)

/-- .. turned into a text again. -/
theorem OwnsC.back {w : World} {base : Nat} {v : Value} {xs : List UInt8} (h : OwnsC w base v xs) : (convert 47 9 v).run Tryd.prog w = .ok (.string ⟨xs.toArray⟩) w := by
  obtain ⟨g, cap, cur, fz, rfl, _, hg, _, _, _, _, ht⟩ := h
  refine run_convert_bytes_back (P := Tryd.prog) w 47 9 5 ⟨g, 0, none⟩ cap xs Tryd.underlying47 Tryd.underlying5 Tryd.underlying9 (fun j hj => ?_)
  rw [addr_at, cell_of_row w g j cur 5 fz hg]
  have : (cur.toList.take xs.length)[j]? = (bcl xs)[j]? := by rw [ht]
  rw [List.getElem?_take_of_lt hj] at this
  simpa [bcl, hj] using this


theorem wpList_append_C1 (w : World) {ops : Array Oper} {rest : List Oper} {o : Oper} {a : Act} {Q : Exit → Act → World → Prop} (hgd : o.guard = none) (sl x : Operand)
    (ho : o.op = .call { callee := .builtin .append, args := #[sl, x], argTypes := #[47, 47] })
    (i0 : TypeInfo) (hi : Tryd.prog.info? 5 = some i0) (hz : i0.zero = some (.int .u8 0)) (hsize : i0.size = 1) (hby : i0.bytes = 1) (base : Nat) (v : Value) (xs : List UInt8) (hs : a.eval sl = v) (hown : OwnsC w base v xs) (b : Nat) (y : UInt8) (hx : a.eval x = .slice (some ⟨b, 0, none⟩) 1 1)
    (hy : w.cell? ⟨b, 0, none⟩ = some (.int .u8 (y.toNat : Int))) (h63 : xs.length + 1 ≤ 140737488355328) (hbase : base ≤ w.heap.size)
    (h : ∀ v' w', OwnsC w' base v' (xs ++ [y]) → w.grownBy w' v.ownBlock → wpList Tryd.prog ops Q rest (a.put o.dst v') w') : wpList Tryd.prog ops Q (o :: rest) a w := by
  have hown' := hown
  obtain ⟨g, cap, cur, fz, rfl, hbg, hg, hfz, hnc, hcm, hcs, htake⟩ := hown
  have hln : (xs ++ [y]).length = xs.length + 1 := by simp
  have holds : ∀ j u, (bcl xs)[j]? = some u → w.cell? ((⟨g, 0, none⟩ : Addr).add j) = some u := by
    intro j u hu
    rw [addr_at, cell_of_row w g j cur 5 fz hg]
    rw [← htake, List.getElem?_take] at hu
    split at hu
    · simpa using hu
    · cases hu
  have hnew : ∀ j u, ([.int .u8 (y.toNat : Int)] : List Value)[j]? = some u → w.cell? ((⟨b, 0, none⟩ : Addr).add j) = some u := by
    intro j u hu
    match j, hu with
    | 0, hu => rw [addr_at]; cases hu; exact hy
  by_cases hroom : xs.length + 1 ≤ cap
  · have hld := run_loadCells_list (P := Tryd.prog) w ⟨b, 0, none⟩ [.int .u8 (y.toNat : Int)] hnew
    have hst := storeCells_clear Tryd.prog g xs.length 5 fz [.int .u8 (y.toNat : Int)] 0 cur w hg (by simp only [List.length_singleton]; omega) (by simp only [List.length_singleton]; omega) (by simp [Value.oneCell'])
    simp only [Nat.add_zero, List.length_singleton] at hst hld
    have hr : (Builtin.append_ #[47, 47] o.type #[.slice (some ⟨g, 0, none⟩) xs.length cap, .slice (some ⟨b, 0, none⟩) 1 1]).run Tryd.prog w = .ok (.slice (some ⟨g, 0, none⟩) (xs.length + 1) cap) (w.setRow g (cur.toList.take xs.length ++ [Value.int .u8 (y.toNat : Int)] ++ cur.toList.drop (xs.length + 1)).toArray) := by
      simp [Builtin.append_, run_underlying Tryd.underlying47, sizeOf, typeInfo, hi, hsize, Builtin.lenOf, hroom, Builtin.firstCells, hld, Addr.add_lit, hst]
    refine wpList_plain hgd fun K hK => ?_
    unfold Oper.wp execOp
    simp only [ho, resolve, invoke, builtin, Sem.run_bind, Sem.run_pure, Result.andThen_ok, List.map_toArray, List.map_cons, List.map_nil, hs, hx, hr]
    refine hK _ _ (h _ _ ?_ ⟨rfl, rfl, rfl, by simp, fun k _ hk => setRow_other w g k _ (fun e => hk (by simp [Value.ownBlock, e]))⟩)
    refine ⟨g, cap, _, fz, by rw [hln], hbg, setRow_heap w g cur _ 5 _ hg, hfz, by rw [hln]; exact hroom, hcm, ?_, ?_⟩
    · simp only [List.size_toArray, List.length_append, List.length_take, List.length_drop, Array.length_toList, List.length_singleton]
      omega
    · rw [htake, bcl_app]
      exact List.take_left' (by simp [bcl])
  · refine wpList_append_grows w hgd sl x 47 ho 5 i0 (.int .u8 0) 1 1 Tryd.underlying47 hi hz hsize hby rfl (by decide) (some ⟨g, 0, none⟩) xs.length cap (bcl xs) hs (by simp) (by simp [bcl]) (fun b' hb' j u hu => by cases hb'; exact holds j u hu) ⟨b, 0, none⟩ 1 1 [.int .u8 (y.toNat : Int)] hx rfl hnew (by simp [Value.oneCell']) (by omega) (by unfold maxLen; omega) (by omega) ?_
    intro v' w' ho' hgr
    obtain ⟨a1, a2, a3, a4, a5⟩ := hgr
    refine h v' w' ?_ ⟨a1, a2, a3, a4, fun k hk _ => a5 k hk (by simp)⟩
    rcases ho'.2 with ⟨_, h0⟩ | ⟨g', cap', cur', hv, hb', hh, hnc', hcm', hcs', ht'⟩
    · omega
    · refine ⟨g', cap', cur', (0, 0), by rw [hln]; exact hv, Nat.le_trans hbase hb', hh, .inl rfl, by rw [hln]; exact hnc', hcm', by rw [hcs']; omega, ?_⟩
      rw [Nat.mul_one] at ht'
      rw [hln, ht', bcl_app]
      rfl

theorem OwnsC.alloc {w : World} {base : Nat} {v : Value} {xs : List UInt8} (h : OwnsC w base v xs) (o : Obj) : OwnsC (w.alloc o) base v xs := by
  obtain ⟨g, cap, cur, fz, hv, hbg, hg, r⟩ := h
  exact ⟨g, cap, cur, fz, hv, hbg, (Below.heap_alloc w o g (box_lt hg)).trans hg, r⟩
theorem OwnsC.form {w : World} {base : Nat} {v : Value} {xs : List UInt8} (h : OwnsC w base v xs) {p : Nat} (hp : xs.length = p) : ∃ g cap, v = .slice (some ⟨g, 0, none⟩) p cap := by
  obtain ⟨g, cap, cur, fz, hv, _⟩ := h
  subst hp
  exact ⟨g, cap, hv⟩
theorem one_cell (X : World) (y : UInt8) : (X.alloc (.cells #[.int .u8 (y.toNat : Int)] 5)).cell? ⟨X.heap.size, 0, none⟩ = some (.int .u8 (y.toNat : Int)) := by
  exact (cells_at (j := 0) (heap_new X (.cells #[.int .u8 (y.toNat : Int)] 5)) rfl).1
def slLen : Value → Nat
  | .slice _ n _ => n
  | _ => 0
/-- a text made up to blocks. -/
def padL (l : List UInt8) : List UInt8 := (List.range (64 * nb l.length)).map (padAt l)
theorem pad_eq (l : List UInt8) (z : Nat) (hz : z = 64 * nb l.length - 8 - (l.length + 1)) : (l ++ 128 :: List.replicate z 0) ++ endT (8 * l.length) 8 = padL l := by
  have hnb : 64 * nb l.length ≥ l.length + 9 := by unfold nb; omega
  apply List.ext_getElem?
  intro k
  unfold padL
  rw [List.getElem?_map]
  by_cases hk : k < 64 * nb l.length
  · rw [List.getElem?_range hk]
    show _ = some (padAt l k)
    unfold padAt
    rw [List.getElem?_append, List.length_append, List.length_cons, List.length_replicate]
    by_cases h1 : k < l.length
    · rw [if_pos (by omega), if_pos h1, List.getElem?_append_left h1, List.getElem?_eq_getElem h1]; rfl
    · rw [if_neg h1]
      by_cases h2 : k = l.length
      · rw [if_pos (by omega), if_pos h2, List.getElem?_append_right (by omega), h2, Nat.sub_self]; rfl
      · rw [if_neg h2]
        by_cases h3 : k < 64 * nb l.length - 8
        · rw [if_pos (by omega), if_pos h3, List.getElem?_append_right (by omega), show k - l.length = (k - l.length - 1) + 1 by omega, List.getElem?_cons_succ, List.getElem?_replicate, if_pos (by omega)]
        · rw [if_neg (by omega), if_neg h3]
          obtain ⟨j, hj, hj8⟩ : ∃ j, k - (l.length + (z + 1)) = j ∧ j < 8 := ⟨_, rfl, by omega⟩
          rw [hj, show 64 * nb l.length - 1 - k = 7 - j by omega]
          rcases (show j = 0 ∨ j = 1 ∨ j = 2 ∨ j = 3 ∨ j = 4 ∨ j = 5 ∨ j = 6 ∨ j = 7 by omega) with rfl | rfl | rfl | rfl | rfl | rfl | rfl | rfl <;> rfl
  · rw [List.getElem?_eq_none (by rw [List.length_append, List.length_append, List.length_cons, List.length_replicate, endT_len]; omega), List.getElem?_eq_none (by rw [List.length_range]; omega)]
    rfl
theorem endT_take (m t : Nat) (ht : t < 8) : (endT m 8).take (t + 1) = (endT m 8).take t ++ [bt m (7 - t)] := by
  rcases (show t = 0 ∨ t = 1 ∨ t = 2 ∨ t = 3 ∨ t = 4 ∨ t = 5 ∨ t = 6 ∨ t = 7 by omega) with rfl | rfl | rfl | rfl | rfl | rfl | rfl | rfl <;> rfl

set_option maxRecDepth 100000 in
set_option maxHeartbeats 2000000 in
theorem padded_in (s : ByteArray) (hs : s.size ≤ 140737488351232) (W : World) :
    Calls Tryd.prog 23 #[.string s] W fun e w' => e = .returned (.string ⟨(padL s.data.toList).toArray⟩) ∧ Below W.heap.size W w' := by
  obtain ⟨i0, hi, hz0, hz1, hz2⟩ := info_of info5
  obtain ⟨n, hn⟩ : ∃ n, s.size = n := ⟨_, rfl⟩
  obtain ⟨l, hl⟩ : ∃ l, s.data.toList = l := ⟨_, rfl⟩
  have HLN : Hid (l.length = n) := by rw [Hid, ← hl, size_list]; exact hn
  obtain ⟨z, hz⟩ : ∃ z, z = 64 * nb n - 8 - (n + 1) := ⟨_, rfl⟩
  have HPE := Hid.mk (pad_eq l z (by rw [HLN.out]; exact hz))
  rw [HLN.out] at HPE
  have hcv := conv_bytes s
  have HC0 : Hid (∀ W : World, OwnsC (Lib.bytesWorld W 5 s) W.heap.size (.slice (some ⟨W.heap.size, 0, none⟩) n (grownCap W n 0 5)) l) := fun W => by
    have h := OwnsC.conv W s (by unfold maxLen; omega)
    rwa [hl, hn] at h
  have HB0 : Hid (∀ W : World, Below W.heap.size W (Lib.bytesWorld W 5 s)) := conv_below s
  rw [hl, ← HPE.out]
  rw [hn] at hcv
  have hzn : z ≤ 63 := by rw [hz]; unfold nb; omega
  have HZ : Hid (∀ j, j ≤ z → ((n + 1 + j) % 64 = 56 ↔ j = z)) := fun j hj => by rw [hz] at hj ⊢; unfold nb at hj ⊢; omega
  have hnl : n ≤ 140737488351232 := by omega
  clear hz hl HPE
  go_enter Tryd.func23, Tryd.ntmps23
  go_wp2_with (at_builtin; refine wpList_append_C1 _ rfl _ _ rfl i0 hi hz0 hz1 hz2 W.heap.size _ l rfl ((HC0.out W).alloc _) _ 128 rfl (one_cell _ 128) (by rw [HLN.out]; omega) (Nat.le_trans (HB0.out W).size (by simp)) ?_; intro v1 w1 hown1 hgrow1)
  have B1 : Below W.heap.size W w1 := ((HB0.out W).alloc (HB0.out W).size _).grown hgrow1 (Nat.le_trans (HB0.out W).size (by simp)) (fun k hk => (HC0.out W).lt k hk)
  have O1 := Hid.mk hown1
  clear hown1 hgrow1 HC0 HB0 hcv
  go_loopw [4] (fun v wr => ∃ j, j ≤ z ∧ OwnsC wr W.heap.size v (l ++ 128 :: List.replicate j 0) ∧ Below W.heap.size W wr) (fun v _ => (n + 1 + z) - slLen v)
  case atStart => exact ⟨0, by omega, O1.out, B1⟩
  case round =>
    obtain ⟨j, hj, hown, hbl⟩ := hrel
    obtain ⟨p, hp⟩ : ∃ p, n + 1 + j = p := ⟨_, rfl⟩
    have hpl : (l ++ 128 :: List.replicate j 0).length = p := by rw [List.length_append, List.length_cons, List.length_replicate, HLN.out]; omega
    obtain ⟨g, cap, rfl⟩ := hown.form hpl
    have HO := Hid.mk hown
    have HZJ := HZ.out j hj
    rw [hp] at HZJ
    have hpn : p ≤ 140737488355000 := by omega
    have hsz := hbl.size
    have HPL := Hid.mk hpl
    have HPP := Hid.mk hp
    clear hown hpl hp
    by_cases he : j = z
    · have h56 : p % 64 = 56 := HZJ.2 he
      have r1 : (p : Int).tmod 64 = 56 := by rw [Int.tmod_eq_emod_of_nonneg (by omega)]; omega
      have r2 : (p : Int) % 64 = 56 := by omega
      have HEQ : Hid (j = z) := he
      clear HZJ h56 he
      have HOZ : Hid (OwnsC wr W.heap.size (.slice (some ⟨g, 0, none⟩) p cap) (l ++ 128 :: List.replicate z 0)) := by rw [← HEQ.out]; exact HO.out
      have HLZ : Hid ((l ++ 128 :: List.replicate z 0).length = p) := by rw [← HEQ.out]; exact HPL.out
      obtain ⟨pre, hpre⟩ : ∃ pre, l ++ 128 :: List.replicate z 0 = pre := ⟨_, rfl⟩
      rw [hpre] at HOZ HLZ
      have HPRE := Hid.mk hpre
      clear hpre
      clear HO HPL HPP HEQ HZ O1 B1
      go_wp2_with fail
      go_loopw [4, 5] (fun v i w2 => ∃ t : Nat, t ≤ 8 ∧ i = .int .i64 (7 - (t : Int)) ∧ OwnsC w2 W.heap.size v (pre ++ (endT (8 * n) 8).take t) ∧ Below W.heap.size W w2) (fun _ i _ => (intOf i + 1).toNat)
      case atStart => exact ⟨0, by omega, rfl, by rw [List.take_zero, List.append_nil]; exact HOZ.out, hbl⟩
      case round =>
        obtain ⟨t, ht, rfl, hown, hbl2⟩ := hrel
        have hlt : (pre ++ (endT (8 * n) 8).take t).length = p + t := by rw [List.length_append, HLZ.out, List.length_take, endT_len]; omega
        obtain ⟨g2, cap2, rfl⟩ := hown.form hlt
        have HO2 := Hid.mk hown
        have HL2 := Hid.mk hlt
        have hsz2 := hbl2.size
        clear hown hlt
        by_cases h8 : t < 8
        · have hbv : (8 * (n : Int)) / 2 ^ (8 * (7 - t)) % 256 = ((bt (8 * n) (7 - t)).toNat : Int) := by
            have := bt_int (8 * n) (7 - t)
            rw [Int.natCast_mul] at this
            exact this.symm
          have HTK := Hid.mk (endT_take (8 * n) t h8)
          generalize bt (8 * n) (7 - t) = y at hbv HTK
          have hsh : (8 * (7 - (t : Int))).toNat = 8 * (7 - t) := by omega
          have hge : (0 : Int) ≤ 7 - (t : Int) := by omega
          go_wp2_with (at_builtin; refine wpList_append_C1 _ rfl _ _ rfl i0 hi hz0 hz1 hz2 W.heap.size _ _ rfl (HO2.out.alloc _) _ y rfl (one_cell _ y) (by rw [HL2.out]; omega) (Nat.le_trans hbl2.size (by simp)) ?_; intro v2 w3 hown2 hgrow2)
          have B3 : Below W.heap.size W w3 := (hbl2.alloc hbl2.size _).grown hgrow2 (Nat.le_trans hbl2.size (by simp)) (fun k hk => HO2.out.lt k hk)
          rw [List.append_assoc, ← HTK.out] at hown2
          go_roundw
          case rel => exact ⟨t + 1, by omega, by go_num, hown2, B3⟩
          case measure => simp [intOf]; omega
        · obtain rfl : t = 8 := by omega
          have hfull : pre ++ (endT (8 * n) 8).take 8 = pre ++ endT (8 * n) 8 := by rw [List.take_of_length_le (by rw [endT_len]; omega)]
          have hcv := HO2.out.back
          rw [hfull] at hcv
          clear hfull
          go_wp2
          go_ret
          exact ⟨by rw [HPRE.out]; rfl, hbl2⟩
    · obtain ⟨r, hr⟩ : ∃ r, p % 64 = r := ⟨_, rfl⟩
      have hr56 : r ≠ 56 := fun e => he (HZJ.1 (hr.trans e))
      have r1 : (p : Int).tmod 64 = (r : Int) := by rw [Int.tmod_eq_emod_of_nonneg (by omega)]; omega
      have r2 : (p : Int) % 64 = (r : Int) := by omega
      have r3 : ((r : Int) != 56) = true := by rw [bne_iff_ne]; omega
      have r4 : ((r : Int) == 56) = false := by rw [beq_eq_false_iff_ne]; omega
      have hjz : j < z := by omega
      clear HZJ hr he hr56
      go_wp2_with (at_builtin; refine wpList_append_C1 _ rfl _ _ rfl i0 hi hz0 hz1 hz2 W.heap.size _ _ rfl (HO.out.alloc _) _ 0 rfl (one_cell _ 0) (by rw [HPL.out]; omega) (Nat.le_trans hbl.size (by simp)) ?_; intro v2 w2 hown2 hgrow2)
      have B2 : Below W.heap.size W w2 := (hbl.alloc hbl.size _).grown hgrow2 (Nat.le_trans hbl.size (by simp)) (fun k hk => HO.out.lt k hk)
      have hrep : (l ++ 128 :: List.replicate j 0) ++ [0] = l ++ 128 :: List.replicate (j + 1) 0 := by rw [List.append_assoc, List.replicate_succ']; rfl
      rw [hrep] at hown2
      have hl2 : (l ++ 128 :: List.replicate (j + 1) 0).length = p + 1 := by rw [← hrep, List.length_append, HPL.out]; rfl
      obtain ⟨g2, cap2, hv2⟩ := hown2.form hl2
      go_roundw
      case rel => exact ⟨j + 1, by omega, hown2, B2⟩
      case measure =>
        have := HPP.out
        simp only [hv2, slLen]
        omega
end Go.Proofs.YtdecmbpmgnoelaaDoor
