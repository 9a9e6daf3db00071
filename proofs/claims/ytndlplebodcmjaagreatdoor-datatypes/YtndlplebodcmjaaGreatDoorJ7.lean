/- Texts of this proof, joined: DConv, DTxtRead, DTxtPass, DTxtTell, DTxtTell2, DTxtTell3. -/
import Derived.Lib.FrozenHead
import Derived.Test.YtndlplebodcmjaaGreatDoorJ6
/- Bytes made of a text ('[]byte(s)'), appended to: such a row bears its mark behind its last cell. -/
namespace Go.Proofs.YtndlplebodcmjaaGreatDoor
set_option linter.unusedVariables false
open Go.RowKit

/-- cells are stored, none of them marked. -/
theorem storeCells_clear (P : Program) (g o : Nat) (t : TypeId) (fz : Nat × Nat) (vs : List Value) : ∀ (i : Nat) (cur : Array Value) (w : World), w.heap[g]? = some (.cells cur t fz) → (fz.2 = 0 ∨ o + i + vs.length ≤ fz.1) → o + i + vs.length ≤ cur.size → (∀ v ∈ vs, v.oneCell' = true) →
    (storeCells ⟨g, o, none⟩ vs i).run P w = .ok () (w.setRow g (cur.toList.take (o + i) ++ vs ++ cur.toList.drop (o + i + vs.length)).toArray) := by
  induction vs with
  | nil =>
    intro i cur w hg _ _ _
    simp only [storeCells, List.append_nil, List.length_nil, Nat.add_zero, List.take_append_drop, Array.toArray_toList]
    rw [setRow_self w g cur t fz hg]
    rfl
  | cons v rest ih =>
    intro i cur w hg hfz hl h1
    rw [List.length_cons] at hfz hl
    have hi : o + i < cur.size := by omega
    have hadd : (⟨g, o, none⟩ : Addr).add i = ⟨g, o + i, none⟩ := Addr.add_lit ..
    have hcell : w.cell? ⟨g, o + i, none⟩ = some cur[o + i] := by simp [World.cell?, hg, hi]
    have hfro : w.frozen? ⟨g, o + i, none⟩ = false := by
      obtain ⟨lo, hi'⟩ := fz
      simp only [World.frozen?, hg, Bool.and_eq_false_iff, decide_eq_false_iff_not]
      simp only at hfz
      omega
    have hst : (store ((⟨g, o, none⟩ : Addr).add i) v).run P w = .ok () (w.setRow g (cur.setIfInBounds (o + i) v)) := by
      rw [hadd, run_store P w _ v _ (h1 v (by simp)), hcell]
      simp [hfro, setCell_eq_setRow w g (o + i) cur t fz v hg]
    have h2 := ih (i + 1) (cur.setIfInBounds (o + i) v) (w.setRow g (cur.setIfInBounds (o + i) v)) (setRow_heap w g cur _ t _ hg) (by omega) (by simp; omega) (fun x hx => h1 x (by simp [hx]))
    simp only [storeCells, Sem.run_bind, hst, Result.andThen_ok, h2, setRow_setRow]
    congr 3
    have e := list_seg_step cur.toList (o + i) v rest (by simp; omega)
    simpa [Array.toList_setIfInBounds, Nat.add_assoc] using e

/-- a row of bytes of one's own, its mark, if any, behind all its cells. -/
def OwnsC (w : World) (base : Nat) (v : Value) (xs : List UInt8) : Prop :=
  ∃ g cap cur fz, v = .slice (some ⟨g, 0, none⟩) xs.length cap ∧ base ≤ g ∧ w.heap[g]? = some (.cells cur 5 fz) ∧ (fz.2 = 0 ∨ cap ≤ fz.1) ∧ xs.length ≤ cap ∧ cap ≤ maxLen ∧ cur.size = cap ∧ cur.toList.take xs.length = Lib.byteCells xs

theorem OwnsC.lt {w : World} {base : Nat} {v : Value} {xs : List UInt8} (h : OwnsC w base v xs) : ∀ k, v.ownBlock = some k → base ≤ k := by
  obtain ⟨g, cap, cur, fz, rfl, hb, _⟩ := h
  intro k hk
  simp [Value.ownBlock] at hk
  omega
theorem OwnsC.kept {w w' : World} {base b : Nat} {v : Value} {xs : List UInt8} (h : OwnsC w base v xs) (k : Kept b w w') (hb : b < base) : OwnsC w' base v xs := by
  obtain ⟨g, cap, cur, fz, hv, hbg, hg, r⟩ := h
  exact ⟨g, cap, cur, fz, hv, hbg, (k.same g (Array.getElem?_eq_some_iff.1 hg).1 (by omega)).trans hg, r⟩
theorem OwnsC.conv (w : World) (s : ByteArray) (hs : s.size ≤ maxLen) : OwnsC (Lib.bytesWorld w 5 s) w.heap.size (.slice (some ⟨w.heap.size, 0, none⟩) s.size (grownCap w s.size 0 5)) s.data.toList := by
  have hge := grownCap_ge w s.size 0 5
  have hz : (Lib.bytesCells w 5 s).size = grownCap w s.size 0 5 := by simp [Lib.bytesCells]; omega
  refine ⟨w.heap.size, grownCap w s.size 0 5, _, _, by rw [size_list], Nat.le_refl _, Lib.bytesWorld_at_new w 5 s, .inr (by rw [hz]; exact Nat.le_refl _), by rw [size_list]; exact hge, grownCap_le_maxLen w s.size 0 5 hs, hz, ?_⟩
  simp only [Lib.bytesCells, Array.toList_append, Array.toList_map, Lib.byteCells]
  rw [List.take_append_of_le_length (by simp)]
  exact List.take_of_length_le (by simp)

/-- .. turned into a text again. -/
theorem OwnsC.back {w : World} {base : Nat} {v : Value} {xs : List UInt8} (h : OwnsC w base v xs) : (convert 67 9 v).run Tryz.prog w = .ok (.string ⟨xs.toArray⟩) w := by
  obtain ⟨g, cap, cur, fz, rfl, _, hg, _, _, _, _, ht⟩ := h
  refine run_convert_bytes_back (P := Tryz.prog) w 67 9 5 ⟨g, 0, none⟩ cap xs Tryz.underlying67 Tryz.underlying5 Tryz.underlying9 (fun j hj => ?_)
  rw [add_at, cell_of_row w g j cur 5 fz hg]
  have : (cur.toList.take xs.length)[j]? = (Lib.byteCells xs)[j]? := by rw [ht]
  rw [List.getElem?_take_of_lt hj] at this
  simpa [Lib.byteCells, hj] using this

theorem run_append_C (w : World) (i0 : TypeInfo) (hi : Tryz.prog.info? 5 = some i0) (hz : i0.zero = some (.int .u8 0)) (hsize : i0.size = 1) (hby : i0.bytes = 1) (ty : TypeId) (base : Nat) (v : Value) (xs : List UInt8) (hown : OwnsC w base v xs) (s : ByteArray)
    (h63 : xs.length + s.size ≤ 1000000) (hbase : base ≤ w.heap.size) :
    ∃ v' w', (Builtin.append_ #[67, 9] ty #[v, .string s]).run Tryz.prog w = .ok v' w' ∧ OwnsC w' base v' (xs ++ s.data.toList) ∧ w.grownBy w' v.ownBlock := by
  obtain ⟨g, cap, cur, fz, rfl, hbg, hg, hfz, hnc, hcm, hcs, htake⟩ := hown
  have hln : (xs ++ s.data.toList).length = xs.length + s.size := by rw [List.length_append, size_list]
  have hbc : Lib.byteCells (xs ++ s.data.toList) = Lib.byteCells xs ++ Lib.strCells s := by simp [Lib.byteCells, Lib.strCells]
  by_cases hroom : xs.length + s.size ≤ cap
  · have hf := Lib.run_firstCells_string (P := Tryz.prog) w 1 s
    have hst := storeCells_clear Tryz.prog g xs.length 5 fz (Lib.strCells s) 0 cur w hg (by rw [Lib.strCells_length]; omega) (by rw [Lib.strCells_length]; omega) (Lib.strCells_oneCell s)
    simp only [Nat.add_zero, Lib.strCells_length] at hst
    have hr : (Builtin.append_ #[67, 9] ty #[.slice (some ⟨g, 0, none⟩) xs.length cap, .string s]).run Tryz.prog w = .ok (.slice (some ⟨g, 0, none⟩) (xs.length + s.size) cap) (w.setRow g (cur.toList.take xs.length ++ Lib.strCells s ++ cur.toList.drop (xs.length + s.size)).toArray) := by
      simp [Builtin.append_, run_underlying Tryz.underlying67, run_underlying Tryz.underlying9, sizeOf, typeInfo, hi, hsize, Builtin.lenOf, hroom, hf, Addr.add_lit, hst]
    refine ⟨_, _, hr, ?_, ⟨rfl, rfl, rfl, by simp, fun k _ hk => setRow_other w g k _ (fun e => hk (by simp [Value.ownBlock, e]))⟩⟩
    refine ⟨g, cap, _, fz, by rw [hln], hbg, setRow_heap w g cur _ 5 _ hg, hfz, by rw [hln]; exact hroom, hcm, ?_, ?_⟩
    · simp only [List.size_toArray, List.length_append, List.length_take, List.length_drop, Array.length_toList, Lib.strCells_length]
      omega
    · rw [htake, hbc]
      exact List.take_left' (by rw [hln]; simp [Lib.byteCells, Lib.strCells_length])
  · have holds : ∀ j u, (Lib.byteCells xs)[j]? = some u → w.cell? ((⟨g, 0, none⟩ : Addr).add j) = some u := by
      intro j u hu
      rw [add_at, cell_of_row w g j cur 5 fz hg]
      rw [← htake, List.getElem?_take] at hu
      split at hu
      · simpa using hu
      · cases hu
    have hbl : (Lib.byteCells xs).length = xs.length := by simp [Lib.byteCells]
    have hr := Lib.run_append_grow_string (P := Tryz.prog) w 67 9 ty 5 i0 (.int .u8 0) Tryz.underlying67 Tryz.underlying9 hi hz ⟨g, 0, none⟩ xs.length cap (Lib.byteCells xs) (by rw [hsize, hbl]; simp) holds s (by omega) (by omega) (by rw [hby]; exact growslice_fits (by omega) (by omega))
    have hge := grownCap_ge w (xs.length + s.size) cap 5
    refine ⟨_, _, hr, ⟨w.heap.size, _, _, (0, 0), by rw [hln], hbase, heap_alloc_new w.drew _, .inl rfl, by rw [hln]; exact hge, grownCap_le_maxLen w (xs.length + s.size) cap 5 (by unfold maxLen; omega), ?_, ?_⟩, ⟨rfl, rfl, rfl, by simp, fun k hk _ => heap_alloc_old w.drew _ hk⟩⟩
    · have hz1 : (Value.int IntKind.u8 0).cells.size = 1 := rfl
      simp only [Array.size_append, List.size_toArray, size_zeroCells, hz1, hbl, Lib.strCells_length]
      omega
    · simp only [Array.toList_append, hbc]
      exact List.take_left' (by rw [hln]; simp [Lib.byteCells, Lib.strCells_length])

theorem wpList_append_C (w : World) {ops : Array Oper} {rest : List Oper} {o : Oper} {a : Act} {Q : Exit → Act → World → Prop} (hgd : o.guard = none) (sl x : Operand)
    (ho : o.op = .call { callee := .builtin .append, args := #[sl, x], argTypes := #[67, 9] })
    (i0 : TypeInfo) (hi : Tryz.prog.info? 5 = some i0) (hz : i0.zero = some (.int .u8 0)) (hsize : i0.size = 1) (hby : i0.bytes = 1) (base : Nat) (v : Value) (xs : List UInt8) (hs : a.eval sl = v) (hown : OwnsC w base v xs) (s : ByteArray) (hx : a.eval x = .string s)
    (h63 : xs.length + s.size ≤ 1000000) (hbase : base ≤ w.heap.size)
    (h : ∀ v' w', OwnsC w' base v' (xs ++ s.data.toList) → w.grownBy w' v.ownBlock → wpList Tryz.prog ops Q rest (a.put o.dst v') w') : wpList Tryz.prog ops Q (o :: rest) a w := by
  refine wpList_plain hgd fun K hK => ?_
  obtain ⟨v', w', hr, h2, h3⟩ := run_append_C w i0 hi hz hsize hby o.type base v xs hown s h63 hbase
  unfold Oper.wp execOp
  simp only [ho, resolve, invoke, builtin, Sem.run_bind, Sem.run_pure, Result.andThen_ok, List.map_toArray, List.map_cons, List.map_nil, hs, hx, hr]
  exact hK _ _ (h v' w' h2 h3)
end Go.Proofs.YtndlplebodcmjaaGreatDoor

/- TXT: how its strings are read, where they are told well. -/
namespace Go.Proofs.YtndlplebodcmjaaGreatDoor
set_option linter.unusedVariables false
open Go.RowKit

theorem bytes_below (w : World) (t : ByteArray) : Below w.heap.size w (Lib.bytesWorld w 5 t) :=
  ⟨rfl, rfl, rfl, by rw [Lib.bytesWorld_size]; omega, fun k hk => Lib.bytesWorld_at_old w 5 t k hk⟩
/-- a text behind the byte that is its number of bytes. -/
def cntd (s : List UInt8) : List UInt8 := UInt8.ofNat s.length :: s

theorem countedF_in (s : List UInt8) (hs : s.length ≤ 255) (w : World) :
    Calls Tryz.prog 97 #[.string ⟨s.toArray⟩] w fun e w' => e = .returned (.string ⟨(cntd s).toArray⟩) ∧ Below w.heap.size w w' := by
  have hz : (⟨s.toArray⟩ : ByteArray).size = s.length := ba_size ..
  have HB := Hid.mk (bytesOf1_in s.length (by omega))
  have hadd : (⟨#[UInt8.ofNat s.length]⟩ : ByteArray) ++ ⟨s.toArray⟩ = ⟨(cntd s).toArray⟩ := by
    apply ba_ext
    simp [cntd]
  have hsz1 : (⟨#[UInt8.ofNat s.length]⟩ : ByteArray).size = 1 := rfl
  have HA := Hid.mk hadd
  clear hadd
  go_enter Tryz.func97, Tryz.ntmps97
  go_wp2_with fail
  refine (HB.out _).mono ?_
  rintro e w1 ⟨rfl, hb1⟩
  go_wp2
  go_ret
  exact ⟨by rw [← HA.out]; rfl, hb1⟩

/-- so many strings more are told, with a blank ahead of each; the bytes of them all. -/
inductive RsM : List UInt8 → List UInt8 → Prop
  | nil : RsM [] []
  | cons (l s t p : List UInt8) (h : rsGo (l.length + 1) [] l = some (s, t)) (hs : s.length ≤ 255) (m : RsM t p) : RsM (32 :: 34 :: l) (cntd s ++ p)

theorem rs_len : ∀ (n : Nat) (acc l : List UInt8) (r : List UInt8 × List UInt8), rsGo n acc l = some r → r.1.length + r.2.length < acc.length + l.length := by
  intro n
  induction n with
  | zero => intro acc l r h; cases h
  | succ n ih =>
    intro acc l r h
    cases l with
    | nil => cases h
    | cons c t =>
      by_cases h34 : c = 34
      · subst h34
        rw [rs_34] at h
        cases h
        simp
      · by_cases h92 : c = 92
        · subst h92
          cases t with
          | nil => cases h
          | cons e t =>
            rw [rs_92] at h
            split at h
            · have := ih _ _ _ h
              simp at this ⊢
              omega
            · cases h
        · rw [rs_else n acc t c h34 h92] at h
          have := ih _ _ _ h
          simp at this ⊢
          omega
theorem rsM_len {l p : List UInt8} (h : RsM l p) : p.length ≤ l.length := by
  induction h with
  | nil => simp
  | cons l s t p h hs m ih =>
    have := rs_len _ _ _ _ h
    simp [cntd] at this ⊢
    omega

set_option maxRecDepth 100000 in
set_option maxHeartbeats 1000000 in
theorem readStrings_in (W : World) (d : Nat) (l s t p : List UInt8) (hl : l.length ≤ 1000) (h : Rd W d ⟨(34 :: l).toArray⟩) (h1 : rsGo (l.length + 1) [] l = some (s, t)) (hs : s.length ≤ 255) (hm : RsM t p) :
    Calls Tryz.prog 76 #[boxV d] W fun e w' => e = .returned (.string ⟨(cntd s ++ p).toArray⟩) ∧ Rd w' d ⟨#[]⟩ ∧ Kept d W w' := by
  obtain ⟨i0, hi, hz0, hz1, hz2⟩ := info_parts info5
  have HR := Hid.mk (readString_in W d l hl h (s, t) h1)
  have hst := rs_len _ _ _ _ h1
  simp only [List.length_nil, Nat.zero_add] at hst
  have HC := Hid.mk (countedF_in s hs)
  have hcs : (⟨(cntd s).toArray⟩ : ByteArray).size = s.length + 1 := by rw [ba_size]; simp [cntd]
  have HM := Hid.mk hm
  have hcv := fun W : World => Lib.run_convert_string_bytes (P := Tryz.prog) W 9 67 5 ⟨(cntd s).toArray⟩ Tryz.underlying9 Tryz.underlying67 Tryz.underlying5
  clear hm h1
  go_enter Tryz.func76, Tryz.ntmps76
  go_wp2_with fail
  refine HR.out.mono ?_
  rintro e w1 ⟨rfl, hr1, hk1⟩
  go_wp2_with fail
  refine (HC.out _).mono ?_
  rintro e w2 ⟨rfl, hb2⟩
  have hconv := OwnsC.conv w2 ⟨(cntd s).toArray⟩ (by rw [hcs]; unfold maxLen; omega)
  have hbw := bytes_below w2 ⟨(cntd s).toArray⟩
  have hrw := (hr1.below hb2).below hbw
  have hkw : Kept d W (Lib.bytesWorld w2 5 ⟨(cntd s).toArray⟩) := (hk1.trans (Kept.of_below hb2)).trans (Kept.of_below hbw)
  have hdn := (hr1.below hb2).lt
  have hWn := (hk1.trans (Kept.of_below (d := d) hb2)).size
  go_wp2
  clear hcv HR HC
  go_loopw [3] (fun v wr => ∃ (xs tt pp : List UInt8), xs.length + tt.length ≤ 2000 ∧ tt.length ≤ 1000 ∧ Rd wr d ⟨tt.toArray⟩ ∧ OwnsC wr w2.heap.size v xs ∧ Hid (RsM tt pp) ∧ Hid (xs ++ pp = cntd s ++ p) ∧ w2.heap.size ≤ wr.heap.size ∧ Kept d W wr) (fun _ wr => rdLen wr d)
  case atStart => exact ⟨cntd s, t, p, by simp [cntd]; omega, by omega, hrw, hconv, HM, rfl, hbw.size, hkw⟩
  case round =>
    obtain ⟨xs, tt, pp, hxt, htt, hrd, hrow, HM2, HX, hsz, hkp⟩ := hrel
    have HLn := Hid.mk hrd.len
    cases HM2.out with
    | nil =>
      have hcl := hrd.cell
      have hbk := hrow.back
      go_wp2
      go_ret
      refine ⟨?_, hrd, hkp⟩
      have := HX.out
      simp at this
      rw [← this]
      rfl
    | cons l2 s2 t2 p2 h2 hs2 m2 =>
      have hst2 := rs_len _ _ _ _ h2
      simp only [List.length_nil, Nat.zero_add] at hst2
      simp only [List.length_cons] at hxt htt
      have HT := Hid.mk (take1_in wr d 32 (34 :: l2) (by simp; omega) hrd)
      have HC2 := Hid.mk (countedF_in s2 hs2)
      have hcs2 : (⟨(cntd s2).toArray⟩ : ByteArray).size = s2.length + 1 := by rw [ba_size]; simp [cntd]
      have HR2 : Hid (∀ w3, Rd w3 d ⟨(34 :: l2).toArray⟩ → Calls Tryz.prog 124 #[boxV d] w3 fun e w' => e = .returned (.string ⟨s2.toArray⟩) ∧ Rd w' d ⟨t2.toArray⟩ ∧ Kept d w3 w') := fun w3 h3 => readString_in w3 d l2 (by omega) h3 (s2, t2) h2
      have HMT := Hid.mk m2
      have hcl := hrd.cell
      have HROW : Hid (∀ w3, Kept d wr w3 → OwnsC w3 w2.heap.size _ xs) := fun w3 hk3 => hrow.kept hk3 hdn
      obtain ⟨g, cap, cur, fz, rfl, _⟩ := hrow
      have hne : ((⟨(32 :: 34 :: l2).toArray⟩ : ByteArray).toList == []) = false := by
        rw [beq_eq_false_iff_ne, ByteArray.toList_eq]; simp
      have hne2 : (!(⟨(32 :: 34 :: l2).toArray⟩ : ByteArray).toList.isEmpty) = true := by
        rw [ByteArray.toList_eq]; rfl
      clear h2 m2
      go_wp2_with fail
      refine HT.out.mono ?_
      rintro e w3 ⟨rfl, hr3, hk3⟩
      go_wp2_with fail
      refine (must_yes _).mono ?_
      rintro e w4 ⟨rfl, rfl⟩
      go_wp2_with fail
      refine (HR2.out _ hr3).mono ?_
      rintro e w5 ⟨rfl, hr5, hk5⟩
      go_wp2_with fail
      refine (HC2.out _).mono ?_
      rintro e w6 ⟨rfl, hb6⟩
      have hk6 : Kept d wr w6 := (hk3.trans hk5).trans (Kept.of_below hb6)
      have hrow6 := HROW.out w6 hk6
      have hsz6 : w2.heap.size ≤ w6.heap.size := Nat.le_trans hsz hk6.size
      clear HROW
      go_wp2_with (at_builtin; refine wpList_append_C _ rfl _ _ rfl i0 hi hz0 hz1 hz2 w2.heap.size _ xs rfl hrow6 ⟨(cntd s2).toArray⟩ rfl (by rw [hcs2]; omega) hsz6 ?_; intro v1 w7 hown7 hgrow7)
      have hb7 : Below w2.heap.size w6 w7 := (Below.refl _ _).grown hgrow7 hsz6 hrow6.lt
      have hrd7 := (hr5.below hb6).belowTo hb7 hdn
      have HLT : Hid (rdLen w7 d < rdLen wr d) := by
        rw [Hid, HLn.out, hrd7.len, ba_size, ba_size]; simp; omega
      have hrelN : ∃ (xs tt pp : List UInt8), xs.length + tt.length ≤ 2000 ∧ tt.length ≤ 1000 ∧ Rd w7 d ⟨tt.toArray⟩ ∧ OwnsC w7 w2.heap.size v1 xs ∧ Hid (RsM tt pp) ∧ Hid (xs ++ pp = cntd s ++ p) ∧ w2.heap.size ≤ w7.heap.size ∧ Kept d W w7 :=
        ⟨xs ++ cntd s2, t2, p2, by simp [cntd]; omega, by omega, hrd7, hown7, HMT, by rw [Hid, List.append_assoc]; exact HX.out, Nat.le_trans hsz6 hb7.size, (hkp.trans hk6).belowTo hb7 hWn⟩
      go_wp2
      go_roundw
      case rel => exact hrelN
      case measure => exact HLT.out
end Go.Proofs.YtndlplebodcmjaaGreatDoor

/- TXT: how data go past it. -/
namespace Go.Proofs.YtndlplebodcmjaaGreatDoor
set_option linter.unusedVariables false
open Go.RowKit

/-- strings, each behind its number, and nothing else. -/
def moreOk : Nat → ByteArray → Bool
  | 0, _ => false
  | n + 1, s => if h : 0 < s.size then (if 1 + s[0].toNat ≤ s.size then moreOk n (s.extract (1 + s[0].toNat) s.size) else false) else true
theorem more_end (n : Nat) (s : ByteArray) (h : s.size = 0) : moreOk (n + 1) s = true := by
  rw [moreOk, dif_neg (by omega)]
theorem more_no (n : Nat) (s : ByteArray) (h : 0 < s.size) (hf : s.size < 1 + s[0].toNat) : moreOk (n + 1) s = false := by
  rw [moreOk, dif_pos h, if_neg (by omega)]
theorem more_go (n : Nat) (s : ByteArray) (h : 0 < s.size) (hf : 1 + s[0].toNat ≤ s.size) : moreOk (n + 1) s = moreOk n (s.extract (1 + s[0].toNat) s.size) := by
  rw [moreOk, dif_pos h, if_pos hf]

def txtPf : Nat → ByteArray → Option Nat := fun _ s => if 0 < s.size ∧ moreOk (s.size + 1) s = true then some s.size else none

theorem ba_empty (s : ByteArray) (h : s.size = 0) : s = ⟨#[]⟩ := by
  apply ba_ext
  have : s.data.toList.length = 0 := by rw [size_list]; exact h
  rw [List.length_eq_zero_iff.1 this]
theorem end_cut (s : ByteArray) : s.extract s.size s.size = ⟨#[]⟩ := ba_empty _ (by rw [ByteArray.size_extract]; omega)
theorem ne_text (s : ByteArray) (h : 0 < s.size) : (s.toList == []) = false ∧ (!s.toList.isEmpty) = true := by
  rw [ByteArray.toList_eq]
  have : s.data.toList ≠ [] := fun e => by
    have : s.data.toList.length = 0 := by rw [e]; rfl
    rw [size_list] at this; omega
  cases hl : s.data.toList with
  | nil => exact absurd hl this
  | cons a l => exact ⟨rfl, rfl⟩

set_option maxHeartbeats 1000000 in
theorem passStrings_in (W : World) (d : Nat) (s : ByteArray) (hs : s.size ≤ 2000) (h : Rd W d s) :
    Calls Tryz.prog 74 #[boxV d] W fun e w' => PassPost (txtPf 0 s) s d W w' e := by
  by_cases h0 : 0 < s.size
  · by_cases hf : 1 + s[0].toNat ≤ s.size
    · have HC := Hid.mk (counted_yes W d s (by unfold maxLen; omega) h h0 hf)
      obtain ⟨R, hR⟩ : ∃ R, moreOk s.size (s.extract (1 + s[0].toNat) s.size) = R := ⟨_, rfl⟩
      have hpf : txtPf 0 s = if R = true then some s.size else none := by
        unfold txtPf
        rw [more_go _ _ h0 hf, hR]
        by_cases hr : R = true <;> simp [h0, hr]
      have HPF := Hid.mk hpf
      have HR := Hid.mk hR
      have hez : (s.extract (1 + s[0].toNat) s.size).size < s.size := by rw [ByteArray.size_extract]; omega
      have hr1 := h.set (s.extract (1 + s[0].toNat) s.size)
      have hk1 := Kept.set d 0 W (.string (s.extract (1 + s[0].toNat) s.size))
      clear hpf hR
      generalize s.extract (1 + s[0].toNat) s.size = s1 at HC HR hez hr1 hk1
      go_enter Tryz.func74, Tryz.ntmps74
      go_wp2_with fail
      refine HC.out.mono ?_
      rintro e w1 ⟨rfl, rfl⟩
      go_wp2
      go_loopw [] (fun wr => ∃ (x : ByteArray) (n : Nat), Rd wr d x ∧ x.size < n ∧ x.size ≤ 2000 ∧ Hid (moreOk n x = R) ∧ Kept d W wr) (fun wr => rdLen wr d)
      case atStart => exact ⟨s1, s.size, hr1, hez, by omega, HR, hk1⟩
      case round =>
        obtain ⟨x, n, hrd, hxn, hx2, HX, hkp⟩ := hrel
        obtain ⟨n, rfl⟩ : ∃ m, n = m + 1 := ⟨n - 1, by omega⟩
        have HLn := Hid.mk hrd.len
        have hcl := hrd.cell
        by_cases hx0 : 0 < x.size
        · obtain ⟨hn1, hn2⟩ := ne_text x hx0
          by_cases hxf : 1 + x[0].toNat ≤ x.size
          · have HC2 := Hid.mk (counted_yes wr d x (by unfold maxLen; omega) hrd hx0 hxf)
            have hez2 : (x.extract (1 + x[0].toNat) x.size).size < x.size := by rw [ByteArray.size_extract]; omega
            have hr2 := hrd.set (x.extract (1 + x[0].toNat) x.size)
            have hk2 := Kept.set d 0 wr (.string (x.extract (1 + x[0].toNat) x.size))
            have HX2 : Hid (moreOk n (x.extract (1 + x[0].toNat) x.size) = R) := by
              rw [Hid, ← more_go n x hx0 hxf]; exact HX.out
            generalize x.extract (1 + x[0].toNat) x.size = x1 at HC2 hez2 hr2 hk2 HX2
            clear hxf
            go_wp2_with fail
            refine HC2.out.mono ?_
            rintro e w2 ⟨rfl, rfl⟩
            have HLT : Hid (rdLen (wr.setCell ⟨d, 0, none⟩ (.string x1)) d < rdLen wr d) := by
              rw [Hid, HLn.out, hr2.len]; exact hez2
            have hrelN : ∃ (x : ByteArray) (n : Nat), Rd (wr.setCell ⟨d, 0, none⟩ (.string x1)) d x ∧ x.size < n ∧ x.size ≤ 2000 ∧ Hid (moreOk n x = R) ∧ Kept d W (wr.setCell ⟨d, 0, none⟩ (.string x1)) :=
              ⟨x1, n, hr2, by omega, by omega, HX2, hkp.trans hk2⟩
            go_wp2
            exact ⟨hrelN, HLT.out⟩
          · have HC2 := Hid.mk (counted_no wr d x (by unfold maxLen; omega) hrd hx0 (by omega))
            have hRf : R = false := by rw [← HX.out, more_no n x hx0 (by omega)]
            go_wp2_with fail
            refine HC2.out.mono ?_
            rintro e w2 ⟨rfl, hk2⟩
            go_wp2
            rw [HPF.out, hRf]
            exact ⟨rfl, rfl, hkp.trans hk2⟩
        · have hxe := ba_empty x (by omega)
          subst hxe
          have hRt : R = true := by rw [← HX.out, more_end n _ rfl]
          go_wp2
          refine bodyPost_end (results_none rfl _ _ _) rfl ?_
          rw [HPF.out, hRt, if_pos rfl]
          exact ⟨Nat.le_refl _, rfl, by rw [end_cut]; exact hrd, hkp⟩
    · have HC := Hid.mk (counted_no W d s (by unfold maxLen; omega) h h0 (by omega))
      have hpf : txtPf 0 s = none := by
        unfold txtPf
        rw [more_no _ _ h0 (by omega)]
        simp
      rw [hpf]
      go_enter Tryz.func74, Tryz.ntmps74
      go_wp2_with fail
      refine HC.out.mono ?_
      rintro e w1 ⟨rfl, hk⟩
      go_wp2
      exact ⟨rfl, rfl, hk⟩
  · have hpf : txtPf 0 s = none := by
      unfold txtPf
      rw [if_neg (fun e => h0 e.1)]
    rw [hpf]
    have HC := Hid.mk (counted_no0 W d s h (by omega))
    go_enter Tryz.func74, Tryz.ntmps74
    go_wp2_with fail
    refine HC.out.mono ?_
    rintro e w1 ⟨rfl, rfl⟩
    go_wp2
    exact ⟨rfl, rfl, Kept.refl _ _⟩
end Go.Proofs.YtndlplebodcmjaaGreatDoor

/- A string of TXT, how it is told. -/
namespace Go.Proofs.YtndlplebodcmjaaGreatDoor
set_option linter.unusedVariables false
open Go.RowKit

/-- how a string tells a byte. -/
def strL (b : UInt8) : List UInt8 := if b.toNat = 34 ∨ b.toNat = 92 then [92, b] else if 32 ≤ b.toNat ∧ b.toNat ≤ 126 then [b] else [92, UInt8.ofNat (48 + b.toNat / 100), UInt8.ofNat (48 + b.toNat / 10 % 10), UInt8.ofNat (48 + b.toNat % 10)]
theorem strL_len (b : UInt8) : (strL b).length ≤ 4 ∧ 1 ≤ (strL b).length := by
  unfold strL; split
  · simp
  · split <;> simp

/-- what an append of bytes owes: the longer row, and nothing else has turned. -/
def AppB (base : Nat) (W : World) (l m : List UInt8) (e : Ending) (w' : World) : Prop :=
  (∃ v', e = .returned v' ∧ w'.ownsRow base 5 1 v' (l ++ m).length (Lib.byteCells (l ++ m))) ∧ Below base W w'
theorem appB_of {base : Nat} {W w1 : World} {v v' : Value} {l m : List UInt8} {tmp : Obj} (hrow : W.ownsRow base 5 1 v l.length (Lib.byteCells l)) (hbase : base ≤ W.heap.size)
    (hown : w1.ownsRow base 5 1 v' (l.length + m.length) (Lib.byteCells l ++ Lib.byteCells m)) (hgrow : (W.alloc tmp).grownBy w1 v.ownBlock) : AppB base W l m (.returned v') w1 := by
  refine ⟨⟨v', rfl, ?_⟩, ((Below.refl base W).alloc hbase _).grown hgrow (by simp; omega) (own_base hrow)⟩
  rw [List.length_append, byteCells_snoc]; exact hown

set_option maxRecDepth 100000 in
set_option maxHeartbeats 1000000 in
theorem strTold_in (base : Nat) (W : World) (v : Value) (l : List UInt8) (b : UInt8) (hl : l.length ≤ 4000000) (hrow : W.ownsRow base 5 1 v l.length (Lib.byteCells l)) (hbase : base ≤ W.heap.size) :
    Calls Tryz.prog 145 #[v, .int .u8 (b.toNat : Int)] W fun e w' => AppB base W l (strL b) e w' := by
  obtain ⟨i0, hi, hz0, hz1, hz2⟩ := info_parts info5
  have hb8 := b.toNat_lt
  by_cases h1 : b.toNat = 34 ∨ b.toNat = 92
  · have ht : strL b = [92, b] := if_pos h1
    have hcs : Lib.byteCells [92, b] = [.int .u8 92, .int .u8 (b.toNat : Int)] := rfl
    have hfin : ∀ v' w1, w1.ownsRow base 5 1 v' (l.length + 2) (Lib.byteCells l ++ [.int .u8 92, .int .u8 (b.toNat : Int)]) → (W.alloc (.cells #[.int .u8 92, .int .u8 (b.toNat : Int)] 5)).grownBy w1 v.ownBlock → AppB base W l (strL b) (.returned v') w1 := by
      intro v' w1 h2 h3
      rw [ht]
      exact appB_of (m := [92, b]) hrow hbase (by rw [hcs]; exact h2) h3
    have HF := Hid.mk hfin
    have hrow' := row_alloc hrow (.cells #[.int .u8 92, .int .u8 (b.toNat : Int)] 5)
    have hnew : ∀ j u, ([.int .u8 92, .int .u8 (b.toNat : Int)] : List Value)[j]? = some u → (W.alloc (.cells #[.int .u8 92, .int .u8 (b.toNat : Int)] 5)).cell? ((⟨W.heap.size, 0, none⟩ : Addr).add j) = some u := fun j u h => cells_new1 W _ 5 j u h
    have HN := Hid.mk hnew
    clear hfin ht hcs hnew
    by_cases h34 : b.toNat = 34
    · have hb1 : ((b.toNat : Int) == 34) = true := by rw [h34]; rfl
      clear h1 h34
      go_enter Tryz.func145, Tryz.ntmps145
      go_wp2_with (at_builtin; refine wpList_append_own _ rfl _ _ 67 rfl base 5 i0 (.int .u8 0) 1 1 Tryz.underlying67 hi hz0 hz1 hz2 rfl (by decide) _ _ _ rfl hrow' ⟨W.heap.size, 0, none⟩ 2 2 _ rfl rfl HN.out (by simp [Value.oneCell']) (by unfold maxLen; omega) (by omega) (by simp; omega) ?_; intro v1 w1 hown1 hgrow1 _)
      go_ret
      exact HF.out _ _ hown1 hgrow1
    · have hb0 : ((b.toNat : Int) == 34) = false := by rw [beq_eq_false_iff_ne]; omega
      have hb1 : ((b.toNat : Int) == 92) = true := by rw [beq_iff_eq]; omega
      clear h1 h34
      go_enter Tryz.func145, Tryz.ntmps145
      go_wp2_with (at_builtin; refine wpList_append_own _ rfl _ _ 67 rfl base 5 i0 (.int .u8 0) 1 1 Tryz.underlying67 hi hz0 hz1 hz2 rfl (by decide) _ _ _ rfl hrow' ⟨W.heap.size, 0, none⟩ 2 2 _ rfl rfl HN.out (by simp [Value.oneCell']) (by unfold maxLen; omega) (by omega) (by simp; omega) ?_; intro v1 w1 hown1 hgrow1 _)
      go_ret
      exact HF.out _ _ hown1 hgrow1
  · have hb0 : ((b.toNat : Int) == 34) = false := by rw [beq_eq_false_iff_ne]; omega
    have hb1 : ((b.toNat : Int) == 92) = false := by rw [beq_eq_false_iff_ne]; omega
    by_cases h2 : 32 ≤ b.toNat ∧ b.toNat ≤ 126
    · have ht : strL b = [b] := by unfold strL; rw [if_neg h1, if_pos h2]
      have hp1 : (32 : Int) ≤ (b.toNat : Int) := by omega
      have hp2 : (b.toNat : Int) ≤ 126 := by omega
      have hcs : Lib.byteCells [b] = [.int .u8 (b.toNat : Int)] := rfl
      have hfin : ∀ v' w1, w1.ownsRow base 5 1 v' (l.length + 1) (Lib.byteCells l ++ [.int .u8 (b.toNat : Int)]) → (W.alloc (.cells #[.int .u8 (b.toNat : Int)] 5)).grownBy w1 v.ownBlock → AppB base W l (strL b) (.returned v') w1 := by
        intro v' w1 h2 h3
        rw [ht]
        exact appB_of (m := [b]) hrow hbase (by rw [hcs]; exact h2) h3
      have HF := Hid.mk hfin
      have hrow' := row_alloc hrow (.cells #[.int .u8 (b.toNat : Int)] 5)
      clear hfin ht hcs h1
      go_enter Tryz.func145, Tryz.ntmps145
      go_wp2_with ((at_builtin; refine wpList_append_own _ rfl _ _ 67 rfl base 5 i0 (.int .u8 0) 1 1 Tryz.underlying67 hi hz0 hz1 hz2 rfl (by decide) _ _ _ rfl hrow' ⟨W.heap.size, 0, none⟩ 1 1 _ rfl rfl (cell_one_new _ _ _) (by simp [Value.oneCell']) (by unfold maxLen; omega) (by omega) (by simp; omega) ?_; intro v1 w1 hown1 hgrow1 _))
      go_ret
      exact HF.out _ _ hown1 hgrow1
    · have ht : strL b = [92, UInt8.ofNat (48 + b.toNat / 100), UInt8.ofNat (48 + b.toNat / 10 % 10), UInt8.ofNat (48 + b.toNat % 10)] := by unfold strL; rw [if_neg h1, if_neg h2]
      have hcs : Lib.byteCells (strL b) = [.int .u8 92, .int .u8 (48 + (b.toNat : Int) / 100), .int .u8 (48 + (b.toNat : Int) / 10 % 10), .int .u8 (48 + (b.toNat : Int) % 10)] := by
        rw [ht]
        have e1 : (UInt8.ofNat (48 + b.toNat / 100)).toNat = 48 + b.toNat / 100 := by simp; omega
        have e2 : (UInt8.ofNat (48 + b.toNat / 10 % 10)).toNat = 48 + b.toNat / 10 % 10 := by simp; omega
        have e3 : (UInt8.ofNat (48 + b.toNat % 10)).toNat = 48 + b.toNat % 10 := by simp; omega
        have c1 : (((UInt8.ofNat (48 + b.toNat / 100)).toNat : Nat) : Int) = 48 + (b.toNat : Int) / 100 := by rw [e1]; omega
        have c2 : (((UInt8.ofNat (48 + b.toNat / 10 % 10)).toNat : Nat) : Int) = 48 + (b.toNat : Int) / 10 % 10 := by rw [e2]; omega
        have c3 : (((UInt8.ofNat (48 + b.toNat % 10)).toNat : Nat) : Int) = 48 + (b.toNat : Int) % 10 := by rw [e3]; omega
        show [Value.int .u8 ((92 : UInt8).toNat : Int), Value.int .u8 ((UInt8.ofNat (48 + b.toNat / 100)).toNat : Int), Value.int .u8 ((UInt8.ofNat (48 + b.toNat / 10 % 10)).toNat : Int), Value.int .u8 ((UInt8.ofNat (48 + b.toNat % 10)).toNat : Int)] = _
        rw [c1, c2, c3]; rfl
      have hln : (strL b).length = 4 := by rw [ht]; rfl
      generalize hx1 : 48 + (b.toNat : Int) / 100 = x1 at hcs
      generalize hx2 : 48 + (b.toNat : Int) / 10 % 10 = x2 at hcs
      generalize hx3 : 48 + (b.toNat : Int) % 10 = x3 at hcs
      have hfin : ∀ v' w1, w1.ownsRow base 5 1 v' (l.length + 4) (Lib.byteCells l ++ [.int .u8 92, .int .u8 x1, .int .u8 x2, .int .u8 x3]) → (W.alloc (.cells #[.int .u8 92, .int .u8 x1, .int .u8 x2, .int .u8 x3] 5)).grownBy w1 v.ownBlock → AppB base W l (strL b) (.returned v') w1 := by
        intro v' w1 h2 h3
        exact appB_of (m := strL b) hrow hbase (by rw [hcs, hln]; exact h2) h3
      have HF := Hid.mk hfin
      have hrow' := row_alloc hrow (.cells #[.int .u8 92, .int .u8 x1, .int .u8 x2, .int .u8 x3] 5)
      have HN := Hid.mk (fun j u h => cells_new1 W #[.int .u8 92, .int .u8 x1, .int .u8 x2, .int .u8 x3] 5 j u h)
      have hnp : b.toNat < 32 ∨ (32 ≤ b.toNat ∧ 126 < b.toNat) := by omega
      clear hfin ht hcs hln h1 h2
      rcases hnp with hq | ⟨hq1, hq2⟩
      · have hp1 : ¬ (32 : Int) ≤ (b.toNat : Int) := by omega
        clear hq
        go_enter Tryz.func145, Tryz.ntmps145
        go_wp2_with (at_builtin; refine wpList_append_own _ rfl _ _ 67 rfl base 5 i0 (.int .u8 0) 1 1 Tryz.underlying67 hi hz0 hz1 hz2 rfl (by decide) _ _ _ rfl hrow' ⟨W.heap.size, 0, none⟩ 4 4 _ rfl rfl HN.out (by simp [Value.oneCell']) (by unfold maxLen; omega) (by omega) (by simp; omega) ?_; intro v1 w1 hown1 hgrow1 _)
        go_ret
        exact HF.out _ _ hown1 hgrow1
      · have hp1 : (32 : Int) ≤ (b.toNat : Int) := by omega
        have hp2 : ¬ (b.toNat : Int) ≤ 126 := by omega
        clear hq1 hq2
        go_enter Tryz.func145, Tryz.ntmps145
        go_wp2_with (at_builtin; refine wpList_append_own _ rfl _ _ 67 rfl base 5 i0 (.int .u8 0) 1 1 Tryz.underlying67 hi hz0 hz1 hz2 rfl (by decide) _ _ _ rfl hrow' ⟨W.heap.size, 0, none⟩ 4 4 _ rfl rfl HN.out (by simp [Value.oneCell']) (by unfold maxLen; omega) (by omega) (by simp; omega) ?_; intro v1 w1 hown1 hgrow1 _)
        go_ret
        exact HF.out _ _ hown1 hgrow1
end Go.Proofs.YtndlplebodcmjaaGreatDoor

/- Strings of TXT, how they are told. -/
namespace Go.Proofs.YtndlplebodcmjaaGreatDoor
set_option linter.unusedVariables false
open Go.RowKit

def strLs (l : List UInt8) : List UInt8 := l.flatMap strL
theorem strLs_snoc (l : List UInt8) (b : UInt8) : strLs (l ++ [b]) = strLs l ++ strL b := by simp [strLs]
theorem strLs_len (l : List UInt8) : (strLs l).length ≤ 4 * l.length := by
  induction l with
  | nil => simp [strLs]
  | cons b l ih =>
    have := (strL_len b).1
    simp only [strLs, List.flatMap_cons, List.length_append, List.length_cons] at *
    omega
/-- a string between its signs. -/
def strT (l : List UInt8) : List UInt8 := 34 :: strLs l ++ [34]

theorem row_one (W : World) (v : Value) : (W.alloc (.cells #[v] 5)).ownsRow W.heap.size 5 1 (.slice (some ⟨W.heap.size, 0, none⟩) 1 1) 1 [v] :=
  ⟨rfl, .inr ⟨W.heap.size, 1, #[v], rfl, Nat.le_refl _, heap_new _ _, Nat.le_refl _, by unfold maxLen; omega, rfl, rfl⟩⟩

theorem row_back {w : World} {base : Nat} {v : Value} {n : Nat} {l : List UInt8} {xs : List Value} (h : w.ownsRow base 5 1 v n xs) (hn : n = l.length) (hx : xs = Lib.byteCells l) : (convert 67 9 v).run Tryz.prog w = .ok (.string ⟨l.toArray⟩) w := by
  subst hn
  subst hx
  rcases h.2 with ⟨rfl, h0⟩ | ⟨g', cap', cur, rfl, _, hg, _, _, _, ht⟩
  · obtain rfl : l = [] := List.length_eq_zero_iff.1 h0
    kernel_rfl
  · exact run_convert_bytes_back (P := Tryz.prog) w 67 9 5 ⟨g', 0, none⟩ cap' l Tryz.underlying67 Tryz.underlying5 Tryz.underlying9 (fun j hj => Lib.cells_of_row (w := w) hg l.length j _ (by rw [Nat.mul_one] at ht; rw [ht]; simp [Lib.byteCells, hj]))

set_option maxRecDepth 100000 in
set_option maxHeartbeats 1000000 in
theorem tellString_in (s : ByteArray) (hs : s.size ≤ 255) (w : World) :
    Calls Tryz.prog 123 #[.string s] w fun e w' => e = .returned (.string ⟨(strT s.data.toList).toArray⟩) ∧ Below w.heap.size w w' := by
  obtain ⟨i0, hi, hz0, hz1, hz2⟩ := info_parts info5
  go_enter Tryz.func123, Tryz.ntmps123
  go_wp2
  go_loopw [3, 8] (fun v i wr => ∃ k : Nat, k ≤ s.size ∧ i = .int .i64 k ∧ wr.ownsRow w.heap.size 5 1 v (34 :: strLs (s.data.toList.take k)).length (Lib.byteCells (34 :: strLs (s.data.toList.take k))) ∧ w.heap.size ≤ wr.heap.size ∧ Below w.heap.size w wr) (fun _ i _ => s.size - (intOf i).toNat)
  case atStart => exact ⟨0, Nat.zero_le _, rfl, row_one w _, by simp, (Below.refl _ _).alloc (Nat.le_refl _) _⟩
  case round =>
    obtain ⟨k, hk, rfl, hrow, hsz, hbl⟩ := hrel
    have hL := strLs_len (s.data.toList.take k)
    rw [List.length_take, size_list] at hL
    by_cases hlt : k < s.size
    · have hnx : 34 :: strLs (s.data.toList.take (k + 1)) = (34 :: strLs (s.data.toList.take k)) ++ strL s[k] := by
        rw [List.take_succ_eq_append_getElem (by rw [size_list]; exact hlt), strLs_snoc]; rfl
      have HNX := Hid.mk hnx
      have hTl : (34 :: strLs (s.data.toList.take k)).length ≤ 2000 := by simp; omega
      clear hnx hL
      generalize (34 :: strLs (s.data.toList.take k)) = T at hrow HNX hTl
      obtain ⟨q, cap, rfl⟩ := row_slice' hrow
      have HA := Hid.mk (strTold_in w.heap.size wr _ T s[k] (by omega) hrow hsz)
      go_wp2_with fail
      refine HA.out.mono ?_
      rintro e w1 ⟨⟨v1, rfl, hown1⟩, hb1⟩
      have hrelN : ∃ j : Nat, j ≤ s.size ∧ Value.int .i64 ((k : Int) + 1) = .int .i64 j ∧ w1.ownsRow w.heap.size 5 1 v1 (34 :: strLs (s.data.toList.take j)).length (Lib.byteCells (34 :: strLs (s.data.toList.take j))) ∧ w.heap.size ≤ w1.heap.size ∧ Below w.heap.size w w1 :=
        ⟨k + 1, by omega, by go_num, by rw [HNX.out]; exact hown1, Nat.le_trans hsz hb1.size, hbl.trans hb1⟩
      go_wp2
      exact ⟨hrelN, by simp [intOf]; omega⟩
    · have hall : s.data.toList.take k = s.data.toList := List.take_of_length_le (by rw [size_list]; omega)
      rw [hall] at hrow hL
      have hTl : (34 :: strLs s.data.toList).length ≤ 2000 := by simp; omega
      have HT : Hid (strT s.data.toList = (34 :: strLs s.data.toList) ++ [34]) := rfl
      clear hall hL
      generalize (34 :: strLs s.data.toList) = T at hrow hTl HT
      obtain ⟨q, cap, rfl⟩ := row_slice' hrow
      go_wp2_with (at_builtin; refine wpList_append_own _ rfl _ _ 67 rfl w.heap.size 5 i0 (.int .u8 0) 1 1 Tryz.underlying67 hi hz0 hz1 hz2 rfl (by decide) _ _ _ rfl (hrow.alloc _) ⟨wr.heap.size, 0, none⟩ 1 1 [.int .u8 34] rfl rfl (cell_one_new _ _ _) (by simp [Value.oneCell']) (by unfold maxLen; omega) (by omega) (by simp; omega) ?_; intro v1 w1 hown1 hgrow1 _; have hcv := row_back (l := T ++ [34]) hown1 (by simp) (by rw [byteCells_snoc]; rfl))
      have hb1 : Below w.heap.size wr w1 := ((Below.refl _ _).alloc hsz _).grown hgrow1 (by simp; omega) (own_base hrow)
      go_ret
      exact ⟨by rw [HT.out]; rfl, hbl.trans hb1⟩
end Go.Proofs.YtndlplebodcmjaaGreatDoor

/- TXT: how it is told, whole. -/
namespace Go.Proofs.YtndlplebodcmjaaGreatDoor
set_option linter.unusedVariables false
open Go.RowKit

/-- the strings of a piece. -/
def spl : Nat → ByteArray → List ByteArray
  | 0, _ => []
  | n + 1, s => if h : 0 < s.size then s.extract 1 (1 + s[0].toNat) :: spl n (s.extract (1 + s[0].toNat) s.size) else []
theorem spl_end (n : Nat) (s : ByteArray) (h : s.size = 0) : spl (n + 1) s = [] := by rw [spl, dif_neg (by omega)]
theorem spl_go (n : Nat) (s : ByteArray) (h : 0 < s.size) : spl (n + 1) s = s.extract 1 (1 + s[0].toNat) :: spl n (s.extract (1 + s[0].toNat) s.size) := by rw [spl, dif_pos h]

def strB (s : ByteArray) : ByteArray := ⟨(strT s.data.toList).toArray⟩
/-- how a piece of TXT is told. -/
def txtT (s : ByteArray) : List UInt8 := Lib.join (((spl (s.size + 1) s).map strB).map (·.data.toList)) [32]

theorem strB_size (s : ByteArray) (h : s.size ≤ 255) : (strB s).size ≤ 1100 := by
  have := strLs_len s.data.toList
  rw [size_list] at this
  rw [strB, ba_size, strT]
  simp
  omega

set_option maxRecDepth 100000 in
set_option maxHeartbeats 1000000 in
theorem tellStrings_in (s : ByteArray) (hs : s.size ≤ 2000) (hok : moreOk (s.size + 1) s = true) (W : World) :
    Calls Tryz.prog 75 #[.string s] W fun e w' => e = .returned (.string ⟨(txtT s).toArray⟩) ∧ Below W.heap.size W w' := by
  obtain ⟨i0, hi, hz0, hz1, hz2⟩ := info_parts info9
  obtain ⟨A, hA⟩ : ∃ A, (spl (s.size + 1) s).map strB = A := ⟨_, rfl⟩
  have hT : txtT s = Lib.join (A.map (·.data.toList)) [32] := by rw [txtT, hA]
  rw [hT]
  have HA := Hid.mk hA
  have HOK := Hid.mk hok
  clear hok hA hT
  go_enter Tryz.func75, Tryz.ntmps75
  go_wp2
  go_loopw [4] (fun v wr => ∃ (ws : List ByteArray) (x : ByteArray) (n : Nat), Rd wr W.heap.size x ∧ x.size < n ∧ ws.length + x.size ≤ 2000 ∧ wr.ownsRow (W.heap.size + 1) 9 1 v ws.length (baV ws) ∧ Hid (∀ y ∈ ws, y.size ≤ 1100) ∧ Hid (moreOk n x = true) ∧ Hid (ws ++ (spl n x).map strB = A) ∧ W.heap.size + 1 ≤ wr.heap.size ∧ Below W.heap.size W wr) (fun _ wr => rdLen wr W.heap.size)
  case atStart => exact ⟨[], s, s.size + 1, heap_new _ _, by omega, by simpa using hs, World.ownsRow_nil .., Hid.mk (fun y hy => absurd hy (by simp)), HOK, HA, by simp, (Below.refl _ _).alloc (Nat.le_refl _) _⟩
  case round =>
    obtain ⟨ws, x, n, hrd, hxn, hwx, hrow, HY, HM, HS, hsz, hbl⟩ := hrel
    obtain ⟨n, rfl⟩ : ∃ m, n = m + 1 := ⟨n - 1, by omega⟩
    have HLn := Hid.mk hrd.len
    have hcl := hrd.cell
    obtain ⟨q, cap, rfl⟩ := row_as hrow
    by_cases hx0 : 0 < x.size
    · obtain ⟨hn1, hn2⟩ := ne_text x hx0
      have hxf : 1 + x[0].toNat ≤ x.size := by
        by_cases hxf : 1 + x[0].toNat ≤ x.size
        · exact hxf
        · have := HM.out
          rw [more_no n x hx0 (by omega)] at this
          cases this
      have hb8 := x[0].toNat_lt
      have HC := Hid.mk (counted_yes wr W.heap.size x (by unfold maxLen; omega) hrd hx0 hxf)
      have hez : (x.extract (1 + x[0].toNat) x.size).size < x.size := by rw [ByteArray.size_extract]; omega
      have hyz : (x.extract 1 (1 + x[0].toNat)).size ≤ 255 := by rw [ByteArray.size_extract]; omega
      have hr1 := hrd.set (x.extract (1 + x[0].toNat) x.size)
      have hk1 := Kept.set W.heap.size 0 wr (.string (x.extract (1 + x[0].toNat) x.size))
      have HM1 : Hid (moreOk n (x.extract (1 + x[0].toNat) x.size) = true) := by
        rw [Hid, ← more_go n x hx0 hxf]; exact HM.out
      have HS1 : Hid (ws ++ (x.extract 1 (1 + x[0].toNat) :: spl n (x.extract (1 + x[0].toNat) x.size)).map strB = A) := by
        rw [Hid, ← spl_go n x hx0]; exact HS.out
      clear hxf HM HS
      generalize x.extract (1 + x[0].toNat) x.size = x1 at HC hez hr1 hk1 HM1 HS1
      generalize x.extract 1 (1 + x[0].toNat) = y at HC hyz HS1
      have HT := Hid.mk (tellString_in y hyz)
      have hst : strB y = ⟨(strT y.data.toList).toArray⟩ := rfl
      have HYZ := Hid.mk (strB_size y hyz)
      have HS2 : Hid (ws ++ (strB y :: (spl n x1).map strB) = A) := HS1
      rw [← hst] at HT
      clear HS1
      generalize strB y = sy at HT HYZ hst HS2
      clear hst
      go_wp2_with fail
      refine HC.out.mono ?_
      rintro e w1 ⟨rfl, rfl⟩
      go_wp2_with fail
      refine (HT.out _).mono ?_
      rintro e w2 ⟨rfl, hb2⟩
      have hrd2 := hr1.below hb2
      have hrow2 := row_bel (row_kept' hrow hk1 (by omega)) hb2
      have hsz2 : W.heap.size + 1 ≤ w2.heap.size := Nat.le_trans (Nat.le_trans hsz hk1.size) hb2.size
      have hbl1 : Below W.heap.size W _ := hbl.trans (hk1.below (Nat.le_refl _) (by omega))
      have hbl2 : Below W.heap.size W w2 := hbl1.trans (hb2.mono (Nat.le_trans (by omega) hk1.size))
      clear hrow
      go_wp2_with (at_builtin; refine wpList_append_own _ rfl _ _ 40 rfl (W.heap.size + 1) 9 i0 (.string ⟨#[]⟩) 1 16 Tryz.underlying40 hi hz0 hz1 hz2 rfl (by decide) _ _ _ rfl (hrow2.alloc _) ⟨w2.heap.size, 0, none⟩ 1 1 [.string sy] rfl rfl (cell_one_new _ _ _) (by simp [Value.oneCell']) (by unfold maxLen; omega) (by omega) (by simp; omega) ?_; intro v1 w3 hown3 hgrow3 _)
      have hb3 : Below (W.heap.size + 1) w2 w3 := ((Below.refl _ w2).alloc hsz2 _).grown hgrow3 (by simp; omega) (rowBaseB hrow2)
      have hrd3 := hrd2.belowTo hb3 (by omega)
      have HLT : Hid (rdLen w3 W.heap.size < rdLen wr W.heap.size) := by
        rw [Hid, HLn.out, hrd3.len]; exact hez
      have hrelN : ∃ (ws : List ByteArray) (x : ByteArray) (n : Nat), Rd w3 W.heap.size x ∧ x.size < n ∧ ws.length + x.size ≤ 2000 ∧ w3.ownsRow (W.heap.size + 1) 9 1 v1 ws.length (baV ws) ∧ Hid (∀ y ∈ ws, y.size ≤ 1100) ∧ Hid (moreOk n x = true) ∧ Hid (ws ++ (spl n x).map strB = A) ∧ W.heap.size + 1 ≤ w3.heap.size ∧ Below W.heap.size W w3 := by
        refine ⟨ws ++ [sy], x1, n, hrd3, by omega, by simp; omega, ?_, Hid.mk (fun z hz => ?_), HM1, ?_, Nat.le_trans hsz2 hb3.size, hbl2.trans (hb3.mono (by omega))⟩
        · rw [List.length_append, baV, List.map_append]; exact hown3
        · rcases List.mem_append.1 hz with h | h
          · exact HY.out z h
          · rw [List.mem_singleton.1 h]; exact HYZ.out
        · rw [Hid, List.append_assoc]; exact HS2.out
      go_wp2
      go_roundw
      case rel => exact hrelN
      case measure => exact HLT.out
    · have hxe := ba_empty x (by omega)
      subst hxe
      have hwA : ws = A := by
        have := HS.out
        rw [spl_end n _ rfl] at this
        simpa using this
      subst hwA
      have hjl := join_len [32] ws 1100 HY.out
      have hwl : ws.length * (1100 + [(32 : UInt8)].length) ≤ 140737488355328 := by
        refine Nat.le_trans (Nat.mul_le_mul_right _ (show ws.length ≤ 2000 by omega)) (by decide)
      have HJ := Hid.mk (join_row ⟨#[32]⟩ hrow (by omega) (Nat.le_trans hjl hwl))
      clear hjl hwl hrow
      go_wp2_with fail
      refine HJ.out.mono ?_
      rintro e w3 ⟨rfl, hb3⟩
      go_wp2
      go_ret
      exact ⟨rfl, hbl.trans (hb3.mono (by omega))⟩
end Go.Proofs.YtndlplebodcmjaaGreatDoor
