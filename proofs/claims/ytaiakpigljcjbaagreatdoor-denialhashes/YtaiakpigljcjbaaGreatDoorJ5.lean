/- Texts of this proof, joined: DStr, DConv, DTxtRead, DTxtPass, DForm, DNmRel. -/
import Derived.Test.YtaiakpigljcjbaaGreatDoorJ4
import Derived.Lib.FrozenHead
/- Strings of TXT: readString and readMarked, where no byte is told by its number. -/
namespace Go.Proofs.YtaiakpigljcjbaaGreatDoor
set_option linter.unusedVariables false
open Go.RowKit

theorem cons_first (c : UInt8) (t : List UInt8) : (⟨(c :: t).toArray⟩ : ByteArray).extract 0 1 = ⟨#[c]⟩ := by
  apply ba_ext
  rw [Lib.extract_data]; simp
theorem cons_rest (c : UInt8) (t : List UInt8) : (⟨(c :: t).toArray⟩ : ByteArray).extract 1 (⟨(c :: t).toArray⟩ : ByteArray).size = ⟨t.toArray⟩ := by
  apply ba_ext
  rw [Lib.extract_data]; simp [ba_size]

theorem take1_in (W : World) (d : Nat) (c : UInt8) (t : List UInt8) (ht : t.length ≤ 1000000) (h : Rd W d ⟨(c :: t).toArray⟩) :
    Calls Tryz.prog 114 #[boxV d, .int .i64 1] W fun e w' => e = .returned (.string ⟨#[c]⟩) ∧ Rd w' d ⟨t.toArray⟩ ∧ Kept d W w' := by
  have := take_yes W d 1 ⟨(c :: t).toArray⟩ (by rw [ba_size]; unfold maxLen; simp; omega) h (by rw [ba_size]; simp)
  rw [cons_first, cons_rest] at this
  refine this.mono ?_
  rintro e w' ⟨he, hw⟩
  subst hw
  exact ⟨he, h.set _, Kept.set _ _ _ _⟩

theorem marked_in (W : World) (d : Nat) (c : UInt8) (t : List UInt8) (ht : t.length ≤ 1000000) (hc : c = 34 ∨ c = 92) (h : Rd W d ⟨(c :: t).toArray⟩) :
    Calls Tryz.prog 235 #[boxV d] W fun e w' => e = .returned (.int .u8 (c.toNat : Int)) ∧ Rd w' d ⟨t.toArray⟩ ∧ Kept d W w' := by
  have HT := Hid.mk (take1_in W d c t ht h)
  have hcl := h.cell
  have hz : (⟨(c :: t).toArray⟩ : ByteArray).size = t.length + 1 := by rw [ba_size]; rfl
  have h0 : ∀ hh, (⟨(c :: t).toArray⟩ : ByteArray)[0]'hh = c := fun _ => rfl
  generalize hS : (⟨(c :: t).toArray⟩ : ByteArray) = S at hcl hz h0
  have hne : (S.toList == []) = false := by
    rw [beq_eq_false_iff_ne, ByteArray.toList_eq]
    intro e
    have : S.size = 0 := by rw [← size_list, e]; rfl
    omega
  have hne2 : (!S.toList.isEmpty) = true := by
    rw [ByteArray.toList_eq]
    cases hl : S.data.toList with
    | nil => exfalso; have : S.size = 0 := by rw [← size_list, hl]; rfl
             omega
    | cons a l => rfl
  have hpos : 0 < S.size := by omega
  have hix := h0 hpos
  clear hS
  rcases hc with rfl | rfl
  all_goals
    go_enter Tryz.func235, Tryz.ntmps235
    go_wp2_with fail
    refine HT.out.mono ?_
    rintro e w1 ⟨rfl, hr, hk⟩
    go_wp2
    go_ret
    exact ⟨rfl, hr, hk⟩

/-- the bytes that are told up to the closing sign, behind acc, and what is left; none: one is told by its number, or there is no end. -/
def rsGo : Nat → List UInt8 → List UInt8 → Option (List UInt8 × List UInt8)
  | 0, _, _ => none
  | n + 1, acc, l => match l with
    | [] => none
    | c :: t => if c = 34 then some (acc, t) else if c = 92 then (match t with
        | [] => none
        | e :: t' => if e = 34 ∨ e = 92 then rsGo n (acc ++ [e]) t' else none)
      else rsGo n (acc ++ [c]) t

theorem rs_nil (n : Nat) (acc : List UInt8) : rsGo n acc [] = none := by cases n <;> rfl
theorem rs_34 (n : Nat) (acc t : List UInt8) : rsGo (n + 1) acc (34 :: t) = some (acc, t) := rfl
theorem rs_92 (n : Nat) (acc t : List UInt8) (e : UInt8) : rsGo (n + 1) acc (92 :: e :: t) = if e = 34 ∨ e = 92 then rsGo n (acc ++ [e]) t else none := by
  rw [rsGo]
  simp only [show ((92 : UInt8) = 34) = False by simp, if_false, if_true]
theorem rs_else (n : Nat) (acc t : List UInt8) (c : UInt8) (h : c ≠ 34) (h2 : c ≠ 92) : rsGo (n + 1) acc (c :: t) = rsGo n (acc ++ [c]) t := by
  rw [rsGo.eq_def]
  simp only [h, h2, if_false]

theorem Kept.belowTo {d n : Nat} {A B C : World} (h : Kept d A B) (k : Below n B C) (hn : A.heap.size ≤ n) : Kept d A C :=
  ⟨k.os.trans h.os, k.tape.trans h.tape, k.output.trans h.output, Nat.le_trans h.size k.size, fun b hb hd => (k.block b (by omega)).trans (h.same b hb hd)⟩
theorem Rd.belowTo {W W' : World} {d n : Nat} {s : ByteArray} (h : Rd W d s) (k : Below n W W') (hd : d < n) : Rd W' d s := (k.block d hd).trans h
def strLen : Option Value → Nat
  | some (.string s) => s.size
  | _ => 0
def rdLen (W : World) (d : Nat) : Nat := strLen (W.cell? ⟨d, 0, none⟩)
theorem Rd.len {W : World} {d : Nat} {s : ByteArray} (h : Rd W d s) : rdLen W d = s.size := by
  rw [rdLen, h.cell]; rfl
theorem row_slice' {W : World} {n₀ n : Nat} {v : Value} {xs : List Value} (h : W.ownsRow n₀ 5 1 v n xs) : ∃ q cap, v = .slice q n cap := by
  rcases h.2 with ⟨rfl, rfl⟩ | ⟨g, cap, cur, hv, _⟩
  · exact ⟨none, 0, rfl⟩
  · exact ⟨_, _, hv⟩
theorem ba1_ne {c k : UInt8} (h : c ≠ k) : ([c] == [k]) = false := by
  rw [beq_eq_false_iff_ne]; intro e; exact h (by simpa using e)

set_option maxRecDepth 100000 in
set_option maxHeartbeats 1000000 in
theorem readString_in (W : World) (d : Nat) (l : List UInt8) (hl : l.length ≤ 1000) (h : Rd W d ⟨(34 :: l).toArray⟩) (r : List UInt8 × List UInt8) (hr : rsGo (l.length + 1) [] l = some r) :
    Calls Tryz.prog 201 #[boxV d] W fun e w' => e = .returned (.string ⟨r.1.toArray⟩) ∧ Rd w' d ⟨r.2.toArray⟩ ∧ Kept d W w' := by
  obtain ⟨i0, hi, hz0, hz1, hz2⟩ := info_parts info5
  have HT := Hid.mk (take1_in W d 34 l (by omega) h)
  have HR := Hid.mk hr
  clear hr
  go_enter Tryz.func201, Tryz.ntmps201
  go_wp2_with fail
  refine HT.out.mono ?_
  rintro e w1 ⟨rfl, hr1, hk1⟩
  go_wp2_with fail
  refine (must_yes _).mono ?_
  rintro e w2 ⟨rfl, rfl⟩
  go_wp2
  have hdn := hr1.lt
  have hWn := hk1.size
  go_loopw [3] (fun v wr => ∃ (acc t : List UInt8) (n : Nat), acc.length + t.length ≤ 1000 ∧ Rd wr d ⟨t.toArray⟩ ∧ wr.ownsRow w2.heap.size 5 1 v acc.length (Lib.byteCells acc) ∧ Hid (rsGo n acc t = some r) ∧ w2.heap.size ≤ wr.heap.size ∧ Kept d W wr) (fun _ wr => rdLen wr d)
  case atStart => exact ⟨[], l, l.length + 1, by simpa using hl, hr1, World.ownsRow_nil .., HR, Nat.le_refl _, hk1⟩
  case round =>
    obtain ⟨acc, t, n, hat, hrd, hrow, HG, hsz, hkp⟩ := hrel
    have HM := Hid.mk hrd.len
    cases t with
    | nil => exact absurd HG.out (by simp [rs_nil])
    | cons c t =>
      obtain ⟨n, rfl⟩ : ∃ m, n = m + 1 := by
        cases n with
        | zero => exact absurd HG.out (by simp [rsGo])
        | succ m => exact ⟨m, rfl⟩
      have HT2 := Hid.mk (take1_in wr d c t (by simp at hat; omega) hrd)
      simp only [List.length_cons] at hat
      obtain ⟨q, cap, rfl⟩ := row_slice' hrow
      have HROW : Hid (∀ w3, Kept d wr w3 → w3.ownsRow w2.heap.size 5 1 (.slice q acc.length cap) acc.length (Lib.byteCells acc)) := fun w3 hk3 => row_kept' hrow hk3 hdn
      clear hrow
      by_cases h34 : c = 34
      · subst h34
        go_wp2_with fail
        refine HT2.out.mono ?_
        rintro e w3 ⟨rfl, hr3, hk3⟩
        have hrow3 := HROW.out w3 hk3
        have hfin : r = (acc, t) := by have := HG.out; rw [rs_34] at this; exact (Option.some.inj this).symm
        subst hfin
        rcases hrow3.2 with ⟨hv, h0⟩ | ⟨g', cap', cur, hv, _, hg, _, _, _, ht⟩
        · obtain rfl : acc = [] := List.length_eq_zero_iff.1 h0
          cases hv
          have hcv : ∀ W : World, (convert 50 9 (.slice none 0 0)).run Tryz.prog W = .ok (.string ⟨#[]⟩) W := fun W => by kernel_rfl
          go_wp2
          go_ret
          exact ⟨rfl, hr3, hkp.trans hk3⟩
        · cases hv
          have hcv := run_convert_bytes_back (P := Tryz.prog) w3 50 9 5 ⟨g', 0, none⟩ cap acc Tryz.underlying50 Tryz.underlying5 Tryz.underlying9 (fun j hj => Lib.cells_of_row (w := w3) hg acc.length j _ (by rw [Nat.mul_one] at ht; rw [ht]; simp [Lib.byteCells, hj]))
          clear hg ht hrow3
          go_wp2
          go_ret
          exact ⟨rfl, hr3, hkp.trans hk3⟩
      · have hb34 := ba1_ne h34
        by_cases h92 : c = 92
        · subst h92
          go_wp2_with fail
          refine HT2.out.mono ?_
          rintro e w3 ⟨rfl, hr3, hk3⟩
          cases t with
          | nil => exact absurd HG.out (by simp [rsGo])
          | cons c t =>
            have hcc : c = 34 ∨ c = 92 := by
              have := HG.out
              rw [rs_92] at this
              by_cases hc : c = 34 ∨ c = 92
              · exact hc
              · rw [if_neg hc] at this; cases this
            have HG2 : Hid (rsGo n (acc ++ [c]) t = some r) := by
              have := HG.out
              rw [rs_92, if_pos hcc] at this
              exact this
            simp only [List.length_cons] at hat
            have HM3 := Hid.mk (marked_in w3 d c t (by omega) hcc hr3)
            go_wp2_with fail
            refine HM3.out.mono ?_
            rintro e w4 ⟨rfl, hr4, hk4⟩
            have hrow4 := HROW.out w4 (hk3.trans hk4)
            have hsz4 : w2.heap.size ≤ w4.heap.size := Nat.le_trans hsz (hk3.trans hk4).size
            clear HROW
            go_wp2_with (at_builtin; refine wpList_append_own _ rfl _ _ 50 rfl w2.heap.size 5 i0 (.int .u8 0) 1 1 Tryz.underlying50 hi hz0 hz1 hz2 rfl (by decide) _ _ _ rfl (hrow4.alloc _) ⟨w4.heap.size, 0, none⟩ 1 1 [.int .u8 (c.toNat : Int)] rfl rfl (cell_one_new _ _ _) (by simp [Value.oneCell']) (by unfold maxLen; omega) (by omega) (by simp; omega) ?_; intro v1 w5 hown5 hgrow5 _)
            have hb5 : Below w2.heap.size w4 w5 := ((Below.refl _ _).alloc hsz4 _).grown hgrow5 (by simp; omega) (own_base hrow4)
            have hrd5 := hr4.belowTo hb5 hdn
            have HLT : Hid (rdLen w5 d < rdLen wr d) := by
              rw [Hid, HM.out, hrd5.len, ba_size, ba_size]; simp; omega
            have hrelN : ∃ (acc t : List UInt8) (n : Nat), acc.length + t.length ≤ 1000 ∧ Rd w5 d ⟨t.toArray⟩ ∧ w5.ownsRow w2.heap.size 5 1 v1 acc.length (Lib.byteCells acc) ∧ Hid (rsGo n acc t = some r) ∧ w2.heap.size ≤ w5.heap.size ∧ Kept d W w5 :=
              ⟨acc ++ [c], t, n, by simp; omega, hrd5, by rw [List.length_append, byteCells_snoc]; exact hown5, HG2, Nat.le_trans hsz4 hb5.size, ((hkp.trans hk3).trans hk4).belowTo hb5 hWn⟩
            go_wp2
            go_roundw
            case rel => exact hrelN
            case measure => exact HLT.out
        · have hb92 := ba1_ne h92
          go_wp2_with fail
          refine HT2.out.mono ?_
          rintro e w4 ⟨rfl, hr4, hk4⟩
          have hrow4 := HROW.out w4 hk4
          have HG2 : Hid (rsGo n (acc ++ [c]) t = some r) := by
            have := HG.out
            rw [rs_else n acc t c h34 h92] at this
            exact this
          have h0 : ∀ hh, (⟨#[c]⟩ : ByteArray)[0]'hh = c := fun _ => rfl
          have hsz4 : w2.heap.size ≤ w4.heap.size := Nat.le_trans hsz hk4.size
          clear HROW
          go_wp2_with (at_builtin; refine wpList_append_own _ rfl _ _ 50 rfl w2.heap.size 5 i0 (.int .u8 0) 1 1 Tryz.underlying50 hi hz0 hz1 hz2 rfl (by decide) _ _ _ rfl (hrow4.alloc _) ⟨w4.heap.size, 0, none⟩ 1 1 [.int .u8 (c.toNat : Int)] rfl rfl (cell_one_new _ _ _) (by simp [Value.oneCell']) (by unfold maxLen; omega) (by omega) (by simp; omega) ?_; intro v1 w5 hown5 hgrow5 _)
          have hb5 : Below w2.heap.size w4 w5 := ((Below.refl _ _).alloc hsz4 _).grown hgrow5 (by simp; omega) (own_base hrow4)
          have hrd5 := hr4.belowTo hb5 hdn
          have HLT : Hid (rdLen w5 d < rdLen wr d) := by
            rw [Hid, HM.out, hrd5.len, ba_size, ba_size]; simp
          have hrelN : ∃ (acc t : List UInt8) (n : Nat), acc.length + t.length ≤ 1000 ∧ Rd w5 d ⟨t.toArray⟩ ∧ w5.ownsRow w2.heap.size 5 1 v1 acc.length (Lib.byteCells acc) ∧ Hid (rsGo n acc t = some r) ∧ w2.heap.size ≤ w5.heap.size ∧ Kept d W w5 :=
            ⟨acc ++ [c], t, n, by simp; omega, hrd5, by rw [List.length_append, byteCells_snoc]; exact hown5, HG2, Nat.le_trans hsz4 hb5.size, (hkp.trans hk4).belowTo hb5 hWn⟩
          go_wp2
          go_roundw
          case rel => exact hrelN
          case measure => exact HLT.out
end Go.Proofs.YtaiakpigljcjbaaGreatDoor

/- Bytes made of a text ('[]byte(s)'), appended to: such a row bears its mark behind its last cell. -/
namespace Go.Proofs.YtaiakpigljcjbaaGreatDoor
set_option linter.unusedVariables false
open Go.RowKit

/-- cells are stored, none of them marked. -/
theorem storeCells_clear (P : Program) (g o : Nat) (t : TypeId) (fz : Nat × Nat) (vs : List Value) : ∀ (i : Nat) (cur : Array Value) (w : World), w.heap[g]? = some (.cells cur t fz) → (fz.2 = 0 ∨ o + i + vs.length ≤ fz.1) → o + i + vs.length ≤ cur.size → (∀ v ∈ vs, v.oneCell' = true) →
    (storeCells ⟨g, o, none⟩ vs i).run P w = .ok () (w.setRow g (cur.toList.take (o + i) ++ vs ++ cur.toList.drop (o + i + vs.length)).toArray) := by
  induction vs with
  | nil =>
    intro i cur w hg _ _ _
    simp only [storeCells, List.append_nil, List.length_nil, Nat.add_zero, List.take_append_drop, Array.toArray_toList]
    rw [setRow_self w g cur t fz hg]
    rfl
  | cons v rest ih =>
    intro i cur w hg hfz hl h1
    rw [List.length_cons] at hfz hl
    have hi : o + i < cur.size := by omega
    have hadd : (⟨g, o, none⟩ : Addr).add i = ⟨g, o + i, none⟩ := Addr.add_lit ..
    have hcell : w.cell? ⟨g, o + i, none⟩ = some cur[o + i] := by simp [World.cell?, hg, hi]
    have hfro : w.frozen? ⟨g, o + i, none⟩ = false := by
      obtain ⟨lo, hi'⟩ := fz
      simp only [World.frozen?, hg, Bool.and_eq_false_iff, decide_eq_false_iff_not]
      simp only at hfz
      omega
    have hst : (store ((⟨g, o, none⟩ : Addr).add i) v).run P w = .ok () (w.setRow g (cur.setIfInBounds (o + i) v)) := by
      rw [hadd, run_store P w _ v _ (h1 v (by simp)), hcell]
      simp [hfro, setCell_eq_setRow w g (o + i) cur t fz v hg]
    have h2 := ih (i + 1) (cur.setIfInBounds (o + i) v) (w.setRow g (cur.setIfInBounds (o + i) v)) (setRow_heap w g cur _ t _ hg) (by omega) (by simp; omega) (fun x hx => h1 x (by simp [hx]))
    simp only [storeCells, Sem.run_bind, hst, Result.andThen_ok, h2, setRow_setRow]
    congr 3
    have e := list_seg_step cur.toList (o + i) v rest (by simp; omega)
    simpa [Array.toList_setIfInBounds, Nat.add_assoc] using e

/-- a row of bytes of one's own, its mark, if any, behind all its cells. -/
def OwnsC (w : World) (base : Nat) (v : Value) (xs : List UInt8) : Prop :=
  ∃ g cap cur fz, v = .slice (some ⟨g, 0, none⟩) xs.length cap ∧ base ≤ g ∧ w.heap[g]? = some (.cells cur 5 fz) ∧ (fz.2 = 0 ∨ cap ≤ fz.1) ∧ xs.length ≤ cap ∧ cap ≤ maxLen ∧ cur.size = cap ∧ cur.toList.take xs.length = Lib.byteCells xs

theorem OwnsC.lt {w : World} {base : Nat} {v : Value} {xs : List UInt8} (h : OwnsC w base v xs) : ∀ k, v.ownBlock = some k → base ≤ k := by
  obtain ⟨g, cap, cur, fz, rfl, hb, _⟩ := h
  intro k hk
  simp [Value.ownBlock] at hk
  omega
theorem OwnsC.kept {w w' : World} {base b : Nat} {v : Value} {xs : List UInt8} (h : OwnsC w base v xs) (k : Kept b w w') (hb : b < base) : OwnsC w' base v xs := by
  obtain ⟨g, cap, cur, fz, hv, hbg, hg, r⟩ := h
  exact ⟨g, cap, cur, fz, hv, hbg, (k.same g (Array.getElem?_eq_some_iff.1 hg).1 (by omega)).trans hg, r⟩
theorem OwnsC.conv (w : World) (s : ByteArray) (hs : s.size ≤ maxLen) : OwnsC (Lib.bytesWorld w 5 s) w.heap.size (.slice (some ⟨w.heap.size, 0, none⟩) s.size (grownCap w s.size 0 5)) s.data.toList := by
  have hge := grownCap_ge w s.size 0 5
  have hz : (Lib.bytesCells w 5 s).size = grownCap w s.size 0 5 := by simp [Lib.bytesCells]; omega
  refine ⟨w.heap.size, grownCap w s.size 0 5, _, _, by rw [size_list], Nat.le_refl _, Lib.bytesWorld_at_new w 5 s, .inr (by rw [hz]; exact Nat.le_refl _), by rw [size_list]; exact hge, grownCap_le_maxLen w s.size 0 5 hs, hz, ?_⟩
  simp only [Lib.bytesCells, Array.toList_append, Array.toList_map, Lib.byteCells]
  rw [List.take_append_of_le_length (by simp)]
  exact List.take_of_length_le (by simp)

/-- .. turned into a text again. -/
theorem OwnsC.back {w : World} {base : Nat} {v : Value} {xs : List UInt8} (h : OwnsC w base v xs) : (convert 50 9 v).run Tryz.prog w = .ok (.string ⟨xs.toArray⟩) w := by
  obtain ⟨g, cap, cur, fz, rfl, _, hg, _, _, _, _, ht⟩ := h
  refine run_convert_bytes_back (P := Tryz.prog) w 50 9 5 ⟨g, 0, none⟩ cap xs Tryz.underlying50 Tryz.underlying5 Tryz.underlying9 (fun j hj => ?_)
  rw [add_at, cell_of_row w g j cur 5 fz hg]
  have : (cur.toList.take xs.length)[j]? = (Lib.byteCells xs)[j]? := by rw [ht]
  rw [List.getElem?_take_of_lt hj] at this
  simpa [Lib.byteCells, hj] using this

theorem run_append_C (w : World) (i0 : TypeInfo) (hi : Tryz.prog.info? 5 = some i0) (hz : i0.zero = some (.int .u8 0)) (hsize : i0.size = 1) (hby : i0.bytes = 1) (ty : TypeId) (base : Nat) (v : Value) (xs : List UInt8) (hown : OwnsC w base v xs) (s : ByteArray)
    (h63 : xs.length + s.size ≤ 1000000) (hbase : base ≤ w.heap.size) :
    ∃ v' w', (Builtin.append_ #[50, 9] ty #[v, .string s]).run Tryz.prog w = .ok v' w' ∧ OwnsC w' base v' (xs ++ s.data.toList) ∧ w.grownBy w' v.ownBlock := by
  obtain ⟨g, cap, cur, fz, rfl, hbg, hg, hfz, hnc, hcm, hcs, htake⟩ := hown
  have hln : (xs ++ s.data.toList).length = xs.length + s.size := by rw [List.length_append, size_list]
  have hbc : Lib.byteCells (xs ++ s.data.toList) = Lib.byteCells xs ++ Lib.strCells s := by simp [Lib.byteCells, Lib.strCells]
  by_cases hroom : xs.length + s.size ≤ cap
  · have hf := Lib.run_firstCells_string (P := Tryz.prog) w 1 s
    have hst := storeCells_clear Tryz.prog g xs.length 5 fz (Lib.strCells s) 0 cur w hg (by rw [Lib.strCells_length]; omega) (by rw [Lib.strCells_length]; omega) (Lib.strCells_oneCell s)
    simp only [Nat.add_zero, Lib.strCells_length] at hst
    have hr : (Builtin.append_ #[50, 9] ty #[.slice (some ⟨g, 0, none⟩) xs.length cap, .string s]).run Tryz.prog w = .ok (.slice (some ⟨g, 0, none⟩) (xs.length + s.size) cap) (w.setRow g (cur.toList.take xs.length ++ Lib.strCells s ++ cur.toList.drop (xs.length + s.size)).toArray) := by
      simp [Builtin.append_, run_underlying Tryz.underlying50, run_underlying Tryz.underlying9, sizeOf, typeInfo, hi, hsize, Builtin.lenOf, hroom, hf, Addr.add_lit, hst]
    refine ⟨_, _, hr, ?_, ⟨rfl, rfl, rfl, by simp, fun k _ hk => setRow_other w g k _ (fun e => hk (by simp [Value.ownBlock, e]))⟩⟩
    refine ⟨g, cap, _, fz, by rw [hln], hbg, setRow_heap w g cur _ 5 _ hg, hfz, by rw [hln]; exact hroom, hcm, ?_, ?_⟩
    · simp only [List.size_toArray, List.length_append, List.length_take, List.length_drop, Array.length_toList, Lib.strCells_length]
      omega
    · rw [htake, hbc]
      exact List.take_left' (by rw [hln]; simp [Lib.byteCells, Lib.strCells_length])
  · have holds : ∀ j u, (Lib.byteCells xs)[j]? = some u → w.cell? ((⟨g, 0, none⟩ : Addr).add j) = some u := by
      intro j u hu
      rw [add_at, cell_of_row w g j cur 5 fz hg]
      rw [← htake, List.getElem?_take] at hu
      split at hu
      · simpa using hu
      · cases hu
    have hbl : (Lib.byteCells xs).length = xs.length := by simp [Lib.byteCells]
    have hr := Lib.run_append_grow_string (P := Tryz.prog) w 50 9 ty 5 i0 (.int .u8 0) Tryz.underlying50 Tryz.underlying9 hi hz ⟨g, 0, none⟩ xs.length cap (Lib.byteCells xs) (by rw [hsize, hbl]; simp) holds s (by omega) (by omega) (by rw [hby]; exact growslice_fits (by omega) (by omega))
    have hge := grownCap_ge w (xs.length + s.size) cap 5
    refine ⟨_, _, hr, ⟨w.heap.size, _, _, (0, 0), by rw [hln], hbase, heap_alloc_new w.drew _, .inl rfl, by rw [hln]; exact hge, grownCap_le_maxLen w (xs.length + s.size) cap 5 (by unfold maxLen; omega), ?_, ?_⟩, ⟨rfl, rfl, rfl, by simp, fun k hk _ => heap_alloc_old w.drew _ hk⟩⟩
    · have hz1 : (Value.int IntKind.u8 0).cells.size = 1 := rfl
      simp only [Array.size_append, List.size_toArray, size_zeroCells, hz1, hbl, Lib.strCells_length]
      omega
    · simp only [Array.toList_append, hbc]
      exact List.take_left' (by rw [hln]; simp [Lib.byteCells, Lib.strCells_length])

theorem wpList_append_C (w : World) {ops : Array Oper} {rest : List Oper} {o : Oper} {a : Act} {Q : Exit → Act → World → Prop} (hgd : o.guard = none) (sl x : Operand)
    (ho : o.op = .call { callee := .builtin .append, args := #[sl, x], argTypes := #[50, 9] })
    (i0 : TypeInfo) (hi : Tryz.prog.info? 5 = some i0) (hz : i0.zero = some (.int .u8 0)) (hsize : i0.size = 1) (hby : i0.bytes = 1) (base : Nat) (v : Value) (xs : List UInt8) (hs : a.eval sl = v) (hown : OwnsC w base v xs) (s : ByteArray) (hx : a.eval x = .string s)
    (h63 : xs.length + s.size ≤ 1000000) (hbase : base ≤ w.heap.size)
    (h : ∀ v' w', OwnsC w' base v' (xs ++ s.data.toList) → w.grownBy w' v.ownBlock → wpList Tryz.prog ops Q rest (a.put o.dst v') w') : wpList Tryz.prog ops Q (o :: rest) a w := by
  refine wpList_plain hgd fun K hK => ?_
  obtain ⟨v', w', hr, h2, h3⟩ := run_append_C w i0 hi hz hsize hby o.type base v xs hown s h63 hbase
  unfold Oper.wp execOp
  simp only [ho, resolve, invoke, builtin, Sem.run_bind, Sem.run_pure, Result.andThen_ok, List.map_toArray, List.map_cons, List.map_nil, hs, hx, hr]
  exact hK _ _ (h v' w' h2 h3)
end Go.Proofs.YtaiakpigljcjbaaGreatDoor

/- TXT: how its strings are read, where they are told well. -/
namespace Go.Proofs.YtaiakpigljcjbaaGreatDoor
set_option linter.unusedVariables false
open Go.RowKit

theorem bytes_below (w : World) (t : ByteArray) : Below w.heap.size w (Lib.bytesWorld w 5 t) :=
  ⟨rfl, rfl, rfl, by rw [Lib.bytesWorld_size]; omega, fun k hk => Lib.bytesWorld_at_old w 5 t k hk⟩
/-- a text behind the byte that is its number of bytes. -/
def cntd (s : List UInt8) : List UInt8 := UInt8.ofNat s.length :: s

theorem countedF_in (s : List UInt8) (hs : s.length ≤ 255) (w : World) :
    Calls Tryz.prog 178 #[.string ⟨s.toArray⟩] w fun e w' => e = .returned (.string ⟨(cntd s).toArray⟩) ∧ Below w.heap.size w w' := by
  have hz : (⟨s.toArray⟩ : ByteArray).size = s.length := ba_size ..
  have HB := Hid.mk (bytesOf1_in s.length (by omega))
  have hadd : (⟨#[UInt8.ofNat s.length]⟩ : ByteArray) ++ ⟨s.toArray⟩ = ⟨(cntd s).toArray⟩ := by
    apply ba_ext
    simp [cntd]
  have hsz1 : (⟨#[UInt8.ofNat s.length]⟩ : ByteArray).size = 1 := rfl
  have HA := Hid.mk hadd
  clear hadd
  go_enter Tryz.func178, Tryz.ntmps178
  go_wp2_with fail
  refine (HB.out _).mono ?_
  rintro e w1 ⟨rfl, hb1⟩
  go_wp2
  go_ret
  exact ⟨by rw [← HA.out]; rfl, hb1⟩

/-- so many strings more are told, with a blank ahead of each; the bytes of them all. -/
inductive RsM : List UInt8 → List UInt8 → Prop
  | nil : RsM [] []
  | cons (l s t p : List UInt8) (h : rsGo (l.length + 1) [] l = some (s, t)) (hs : s.length ≤ 255) (m : RsM t p) : RsM (32 :: 34 :: l) (cntd s ++ p)

theorem rs_len : ∀ (n : Nat) (acc l : List UInt8) (r : List UInt8 × List UInt8), rsGo n acc l = some r → r.1.length + r.2.length < acc.length + l.length := by
  intro n
  induction n with
  | zero => intro acc l r h; cases h
  | succ n ih =>
    intro acc l r h
    cases l with
    | nil => cases h
    | cons c t =>
      by_cases h34 : c = 34
      · subst h34
        rw [rs_34] at h
        cases h
        simp
      · by_cases h92 : c = 92
        · subst h92
          cases t with
          | nil => cases h
          | cons e t =>
            rw [rs_92] at h
            split at h
            · have := ih _ _ _ h
              simp at this ⊢
              omega
            · cases h
        · rw [rs_else n acc t c h34 h92] at h
          have := ih _ _ _ h
          simp at this ⊢
          omega
theorem rsM_len {l p : List UInt8} (h : RsM l p) : p.length ≤ l.length := by
  induction h with
  | nil => simp
  | cons l s t p h hs m ih =>
    have := rs_len _ _ _ _ h
    simp [cntd] at this ⊢
    omega

set_option maxRecDepth 100000 in
set_option maxHeartbeats 1000000 in
theorem readStrings_in (W : World) (d : Nat) (l s t p : List UInt8) (hl : l.length ≤ 1000) (h : Rd W d ⟨(34 :: l).toArray⟩) (h1 : rsGo (l.length + 1) [] l = some (s, t)) (hs : s.length ≤ 255) (hm : RsM t p) :
    Calls Tryz.prog 160 #[boxV d] W fun e w' => e = .returned (.string ⟨(cntd s ++ p).toArray⟩) ∧ Rd w' d ⟨#[]⟩ ∧ Kept d W w' := by
  obtain ⟨i0, hi, hz0, hz1, hz2⟩ := info_parts info5
  have HR := Hid.mk (readString_in W d l hl h (s, t) h1)
  have hst := rs_len _ _ _ _ h1
  simp only [List.length_nil, Nat.zero_add] at hst
  have HC := Hid.mk (countedF_in s hs)
  have hcs : (⟨(cntd s).toArray⟩ : ByteArray).size = s.length + 1 := by rw [ba_size]; simp [cntd]
  have HM := Hid.mk hm
  have hcv := fun W : World => Lib.run_convert_string_bytes (P := Tryz.prog) W 9 50 5 ⟨(cntd s).toArray⟩ Tryz.underlying9 Tryz.underlying50 Tryz.underlying5
  clear hm h1
  go_enter Tryz.func160, Tryz.ntmps160
  go_wp2_with fail
  refine HR.out.mono ?_
  rintro e w1 ⟨rfl, hr1, hk1⟩
  go_wp2_with fail
  refine (HC.out _).mono ?_
  rintro e w2 ⟨rfl, hb2⟩
  have hconv := OwnsC.conv w2 ⟨(cntd s).toArray⟩ (by rw [hcs]; unfold maxLen; omega)
  have hbw := bytes_below w2 ⟨(cntd s).toArray⟩
  have hrw := (hr1.below hb2).below hbw
  have hkw : Kept d W (Lib.bytesWorld w2 5 ⟨(cntd s).toArray⟩) := (hk1.trans (Kept.of_below hb2)).trans (Kept.of_below hbw)
  have hdn := (hr1.below hb2).lt
  have hWn := (hk1.trans (Kept.of_below (d := d) hb2)).size
  go_wp2
  clear hcv HR HC
  go_loopw [3] (fun v wr => ∃ (xs tt pp : List UInt8), xs.length + tt.length ≤ 2000 ∧ tt.length ≤ 1000 ∧ Rd wr d ⟨tt.toArray⟩ ∧ OwnsC wr w2.heap.size v xs ∧ Hid (RsM tt pp) ∧ Hid (xs ++ pp = cntd s ++ p) ∧ w2.heap.size ≤ wr.heap.size ∧ Kept d W wr) (fun _ wr => rdLen wr d)
  case atStart => exact ⟨cntd s, t, p, by simp [cntd]; omega, by omega, hrw, hconv, HM, rfl, hbw.size, hkw⟩
  case round =>
    obtain ⟨xs, tt, pp, hxt, htt, hrd, hrow, HM2, HX, hsz, hkp⟩ := hrel
    have HLn := Hid.mk hrd.len
    cases HM2.out with
    | nil =>
      have hcl := hrd.cell
      have hbk := hrow.back
      go_wp2
      go_ret
      refine ⟨?_, hrd, hkp⟩
      have := HX.out
      simp at this
      rw [← this]
      rfl
    | cons l2 s2 t2 p2 h2 hs2 m2 =>
      have hst2 := rs_len _ _ _ _ h2
      simp only [List.length_nil, Nat.zero_add] at hst2
      simp only [List.length_cons] at hxt htt
      have HT := Hid.mk (take1_in wr d 32 (34 :: l2) (by simp; omega) hrd)
      have HC2 := Hid.mk (countedF_in s2 hs2)
      have hcs2 : (⟨(cntd s2).toArray⟩ : ByteArray).size = s2.length + 1 := by rw [ba_size]; simp [cntd]
      have HR2 : Hid (∀ w3, Rd w3 d ⟨(34 :: l2).toArray⟩ → Calls Tryz.prog 201 #[boxV d] w3 fun e w' => e = .returned (.string ⟨s2.toArray⟩) ∧ Rd w' d ⟨t2.toArray⟩ ∧ Kept d w3 w') := fun w3 h3 => readString_in w3 d l2 (by omega) h3 (s2, t2) h2
      have HMT := Hid.mk m2
      have hcl := hrd.cell
      have HROW : Hid (∀ w3, Kept d wr w3 → OwnsC w3 w2.heap.size _ xs) := fun w3 hk3 => hrow.kept hk3 hdn
      obtain ⟨g, cap, cur, fz, rfl, _⟩ := hrow
      have hne : ((⟨(32 :: 34 :: l2).toArray⟩ : ByteArray).toList == []) = false := by
        rw [beq_eq_false_iff_ne, ByteArray.toList_eq]; simp
      have hne2 : (!(⟨(32 :: 34 :: l2).toArray⟩ : ByteArray).toList.isEmpty) = true := by
        rw [ByteArray.toList_eq]; rfl
      clear h2 m2
      go_wp2_with fail
      refine HT.out.mono ?_
      rintro e w3 ⟨rfl, hr3, hk3⟩
      go_wp2_with fail
      refine (must_yes _).mono ?_
      rintro e w4 ⟨rfl, rfl⟩
      go_wp2_with fail
      refine (HR2.out _ hr3).mono ?_
      rintro e w5 ⟨rfl, hr5, hk5⟩
      go_wp2_with fail
      refine (HC2.out _).mono ?_
      rintro e w6 ⟨rfl, hb6⟩
      have hk6 : Kept d wr w6 := (hk3.trans hk5).trans (Kept.of_below hb6)
      have hrow6 := HROW.out w6 hk6
      have hsz6 : w2.heap.size ≤ w6.heap.size := Nat.le_trans hsz hk6.size
      clear HROW
      go_wp2_with (at_builtin; refine wpList_append_C _ rfl _ _ rfl i0 hi hz0 hz1 hz2 w2.heap.size _ xs rfl hrow6 ⟨(cntd s2).toArray⟩ rfl (by rw [hcs2]; omega) hsz6 ?_; intro v1 w7 hown7 hgrow7)
      have hb7 : Below w2.heap.size w6 w7 := (Below.refl _ _).grown hgrow7 hsz6 hrow6.lt
      have hrd7 := (hr5.below hb6).belowTo hb7 hdn
      have HLT : Hid (rdLen w7 d < rdLen wr d) := by
        rw [Hid, HLn.out, hrd7.len, ba_size, ba_size]; simp; omega
      have hrelN : ∃ (xs tt pp : List UInt8), xs.length + tt.length ≤ 2000 ∧ tt.length ≤ 1000 ∧ Rd w7 d ⟨tt.toArray⟩ ∧ OwnsC w7 w2.heap.size v1 xs ∧ Hid (RsM tt pp) ∧ Hid (xs ++ pp = cntd s ++ p) ∧ w2.heap.size ≤ w7.heap.size ∧ Kept d W w7 :=
        ⟨xs ++ cntd s2, t2, p2, by simp [cntd]; omega, by omega, hrd7, hown7, HMT, by rw [Hid, List.append_assoc]; exact HX.out, Nat.le_trans hsz6 hb7.size, (hkp.trans hk6).belowTo hb7 hWn⟩
      go_wp2
      go_roundw
      case rel => exact hrelN
      case measure => exact HLT.out
end Go.Proofs.YtaiakpigljcjbaaGreatDoor

/- TXT: how data go past it. -/
namespace Go.Proofs.YtaiakpigljcjbaaGreatDoor
set_option linter.unusedVariables false
open Go.RowKit

/-- strings, each behind its number, and nothing else. -/
def moreOk : Nat → ByteArray → Bool
  | 0, _ => false
  | n + 1, s => if h : 0 < s.size then (if 1 + s[0].toNat ≤ s.size then moreOk n (s.extract (1 + s[0].toNat) s.size) else false) else true
theorem more_end (n : Nat) (s : ByteArray) (h : s.size = 0) : moreOk (n + 1) s = true := by
  rw [moreOk, dif_neg (by omega)]
theorem more_no (n : Nat) (s : ByteArray) (h : 0 < s.size) (hf : s.size < 1 + s[0].toNat) : moreOk (n + 1) s = false := by
  rw [moreOk, dif_pos h, if_neg (by omega)]
theorem more_go (n : Nat) (s : ByteArray) (h : 0 < s.size) (hf : 1 + s[0].toNat ≤ s.size) : moreOk (n + 1) s = moreOk n (s.extract (1 + s[0].toNat) s.size) := by
  rw [moreOk, dif_pos h, if_pos hf]

def txtPf : Nat → ByteArray → Option Nat := fun _ s => if 0 < s.size ∧ moreOk (s.size + 1) s = true then some s.size else none

theorem ba_empty (s : ByteArray) (h : s.size = 0) : s = ⟨#[]⟩ := by
  apply ba_ext
  have : s.data.toList.length = 0 := by rw [size_list]; exact h
  rw [List.length_eq_zero_iff.1 this]
theorem end_cut (s : ByteArray) : s.extract s.size s.size = ⟨#[]⟩ := ba_empty _ (by rw [ByteArray.size_extract]; omega)
theorem ne_text (s : ByteArray) (h : 0 < s.size) : (s.toList == []) = false ∧ (!s.toList.isEmpty) = true := by
  rw [ByteArray.toList_eq]
  have : s.data.toList ≠ [] := fun e => by
    have : s.data.toList.length = 0 := by rw [e]; rfl
    rw [size_list] at this; omega
  cases hl : s.data.toList with
  | nil => exact absurd hl this
  | cons a l => exact ⟨rfl, rfl⟩

set_option maxHeartbeats 1000000 in
theorem passStrings_in (W : World) (d : Nat) (s : ByteArray) (hs : s.size ≤ 2000) (h : Rd W d s) :
    Calls Tryz.prog 158 #[boxV d] W fun e w' => PassPost (txtPf 0 s) s d W w' e := by
  by_cases h0 : 0 < s.size
  · by_cases hf : 1 + s[0].toNat ≤ s.size
    · have HC := Hid.mk (counted_yes W d s (by unfold maxLen; omega) h h0 hf)
      obtain ⟨R, hR⟩ : ∃ R, moreOk s.size (s.extract (1 + s[0].toNat) s.size) = R := ⟨_, rfl⟩
      have hpf : txtPf 0 s = if R = true then some s.size else none := by
        unfold txtPf
        rw [more_go _ _ h0 hf, hR]
        by_cases hr : R = true <;> simp [h0, hr]
      have HPF := Hid.mk hpf
      have HR := Hid.mk hR
      have hez : (s.extract (1 + s[0].toNat) s.size).size < s.size := by rw [ByteArray.size_extract]; omega
      have hr1 := h.set (s.extract (1 + s[0].toNat) s.size)
      have hk1 := Kept.set d 0 W (.string (s.extract (1 + s[0].toNat) s.size))
      clear hpf hR
      generalize s.extract (1 + s[0].toNat) s.size = s1 at HC HR hez hr1 hk1
      go_enter Tryz.func158, Tryz.ntmps158
      go_wp2_with fail
      refine HC.out.mono ?_
      rintro e w1 ⟨rfl, rfl⟩
      go_wp2
      go_loopw [] (fun wr => ∃ (x : ByteArray) (n : Nat), Rd wr d x ∧ x.size < n ∧ x.size ≤ 2000 ∧ Hid (moreOk n x = R) ∧ Kept d W wr) (fun wr => rdLen wr d)
      case atStart => exact ⟨s1, s.size, hr1, hez, by omega, HR, hk1⟩
      case round =>
        obtain ⟨x, n, hrd, hxn, hx2, HX, hkp⟩ := hrel
        obtain ⟨n, rfl⟩ : ∃ m, n = m + 1 := ⟨n - 1, by omega⟩
        have HLn := Hid.mk hrd.len
        have hcl := hrd.cell
        by_cases hx0 : 0 < x.size
        · obtain ⟨hn1, hn2⟩ := ne_text x hx0
          by_cases hxf : 1 + x[0].toNat ≤ x.size
          · have HC2 := Hid.mk (counted_yes wr d x (by unfold maxLen; omega) hrd hx0 hxf)
            have hez2 : (x.extract (1 + x[0].toNat) x.size).size < x.size := by rw [ByteArray.size_extract]; omega
            have hr2 := hrd.set (x.extract (1 + x[0].toNat) x.size)
            have hk2 := Kept.set d 0 wr (.string (x.extract (1 + x[0].toNat) x.size))
            have HX2 : Hid (moreOk n (x.extract (1 + x[0].toNat) x.size) = R) := by
              rw [Hid, ← more_go n x hx0 hxf]; exact HX.out
            generalize x.extract (1 + x[0].toNat) x.size = x1 at HC2 hez2 hr2 hk2 HX2
            clear hxf
            go_wp2_with fail
            refine HC2.out.mono ?_
            rintro e w2 ⟨rfl, rfl⟩
            have HLT : Hid (rdLen (wr.setCell ⟨d, 0, none⟩ (.string x1)) d < rdLen wr d) := by
              rw [Hid, HLn.out, hr2.len]; exact hez2
            have hrelN : ∃ (x : ByteArray) (n : Nat), Rd (wr.setCell ⟨d, 0, none⟩ (.string x1)) d x ∧ x.size < n ∧ x.size ≤ 2000 ∧ Hid (moreOk n x = R) ∧ Kept d W (wr.setCell ⟨d, 0, none⟩ (.string x1)) :=
              ⟨x1, n, hr2, by omega, by omega, HX2, hkp.trans hk2⟩
            go_wp2
            exact ⟨hrelN, HLT.out⟩
          · have HC2 := Hid.mk (counted_no wr d x (by unfold maxLen; omega) hrd hx0 (by omega))
            have hRf : R = false := by rw [← HX.out, more_no n x hx0 (by omega)]
            go_wp2_with fail
            refine HC2.out.mono ?_
            rintro e w2 ⟨rfl, hk2⟩
            go_wp2
            rw [HPF.out, hRf]
            exact ⟨rfl, rfl, hkp.trans hk2⟩
        · have hxe := ba_empty x (by omega)
          subst hxe
          have hRt : R = true := by rw [← HX.out, more_end n _ rfl]
          go_wp2
          refine bodyPost_end (results_none rfl _ _ _) rfl ?_
          rw [HPF.out, hRt, if_pos rfl]
          exact ⟨Nat.le_refl _, rfl, by rw [end_cut]; exact hrd, hkp⟩
    · have HC := Hid.mk (counted_no W d s (by unfold maxLen; omega) h h0 (by omega))
      have hpf : txtPf 0 s = none := by
        unfold txtPf
        rw [more_no _ _ h0 (by omega)]
        simp
      rw [hpf]
      go_enter Tryz.func158, Tryz.ntmps158
      go_wp2_with fail
      refine HC.out.mono ?_
      rintro e w1 ⟨rfl, hk⟩
      go_wp2
      exact ⟨rfl, rfl, hk⟩
  · have hpf : txtPf 0 s = none := by
      unfold txtPf
      rw [if_neg (fun e => h0 e.1)]
    rw [hpf]
    have HC := Hid.mk (counted_no0 W d s h (by omega))
    go_enter Tryz.func158, Tryz.ntmps158
    go_wp2_with fail
    refine HC.out.mono ?_
    rintro e w1 ⟨rfl, rfl⟩
    go_wp2
    exact ⟨rfl, rfl, Kept.refl _ _⟩
end Go.Proofs.YtaiakpigljcjbaaGreatDoor

/- The kinds of parts, and how data go past each: numbers, names, types, hex, salts, hashes. -/
namespace Go.Proofs.YtaiakpigljcjbaaGreatDoor
set_option linter.unusedVariables false
open Go.RowKit

/-- a kind of part. -/
inductive PK where
  | num (n : Nat)
  | grp (c w b : Nat) (sep : UInt8)
  | name
  | type
  | hex
  | salt
  | hash
  | types
  | any
  | strs

/-- a type's form. -/
def formOf (k : Int) : List PK :=
  if k = 1 then [.grp 4 1 10 46] else if k = 28 then [.grp 8 2 16 58] else if k = 2 ∨ k = 5 ∨ k = 39 then [.name]
  else if k = 6 then [.name, .name, .num 4, .num 4, .num 4, .num 4, .num 4] else if k = 15 then [.num 2, .name] else if k = 16 then [.strs]
  else if k = 43 ∨ k = 48 then [.num 2, .num 1, .num 1, .hex] else if k = 46 then [.type, .num 1, .num 1, .num 4, .num 4, .num 4, .num 2, .name, .hex]
  else if k = 47 then [.name, .types] else if k = 50 then [.num 1, .num 1, .num 2, .salt, .hash, .types] else [.any]

/-- so many bytes. -/
def takeK (n : Nat) (s : ByteArray) : Option Nat := if n ≤ s.size then some n else none
/-- bytes behind their number. -/
def cntK (s : ByteArray) : Option Nat := if h : 0 < s.size then (if 1 + s[0].toNat ≤ s.size then some (1 + s[0].toNat) else none) else none
def hashK (s : ByteArray) : Option Nat := match cntK s with
  | some m => if 1 < m then some m else none
  | none => none
/-- labels up to one of no bytes. -/
def nmGo : Nat → ByteArray → Option Nat
  | 0, _ => none
  | n + 1, s => match cntK s with
    | none => none
    | some m => if m = 1 then some 1 else (nmGo n (s.extract m s.size)).map (· + m)
open Classical in
noncomputable def nameK (s : ByteArray) : Option Nat := match nmGo (s.size + 1) s with
  | none => none
  | some m => if IsName (s.extract 0 m) then some m else none

/-- the types that the bits of a window tell, up to the n-th. -/
def bitAt (bits : List UInt8) (n : Nat) : Bool := (bits.getD (n / 8) 0).toNat / 2 ^ (7 - n % 8) % 2 == 1
def bitsL (w : Nat) (bits : List UInt8) (n : Nat) : List Nat := ((List.range n).filter fun i => bitAt bits i).map fun i => w * 256 + i
def lastOk (bits : List UInt8) : Bool := match bits.getLast? with
  | some b => b != 0
  | none => false
/-- a list of types that bytes put down. -/
def tyGo : Nat → Int → ByteArray → Option (List Nat)
  | 0, _, _ => none
  | n + 1, last, s => if h : 0 < s.size then (match cntK (s.extract 1 s.size) with
      | none => none
      | some m => if last < (s[0].toNat : Int) ∧ m ≤ 33 ∧ lastOk (s.extract 2 (m + 1)).data.toList = true then
          (tyGo n s[0].toNat (s.extract (m + 1) s.size)).map fun r => bitsL s[0].toNat (s.extract 2 (m + 1)).data.toList (8 * (m - 1)) ++ r else none)
    else some []
def typesR (s : ByteArray) : Option (List Nat) := tyGo (s.size + 1) (-1) s

noncomputable def passK : PK → ByteArray → Option Nat
  | .num n, s => takeK n s
  | .grp c w _ _, s => takeK (c * w) s
  | .name, s => nameK s
  | .type, s => takeK 2 s
  | .hex, s => if 0 < s.size then some s.size else none
  | .salt, s => cntK s
  | .hash, s => hashK s
  | .types, s => if (typesR s).isSome then some s.size else none
  | .any, s => some s.size
  | .strs, s => txtPf 0 s

/-! ### the walks -/
theorem take_post (W : World) (d n : Nat) (s : ByteArray) (hs : s.size ≤ 2000) (hn : n ≤ 100) (h : Rd W d s) :
    Calls Tryz.prog 114 #[boxV d, .int .i64 n] W fun e w' => match takeK n s with
      | some m => m ≤ s.size ∧ e = .returned (.string (s.extract 0 n)) ∧ Rd w' d (s.extract m s.size) ∧ Kept d W w'
      | none => e = .panicked mustV ∧ Kept d W w' := by
  unfold takeK
  by_cases hl : n ≤ s.size
  · rw [if_pos hl]
    refine (take_yes W d n s (by unfold maxLen; omega) h hl).mono ?_
    rintro e w' ⟨rfl, rfl⟩
    exact ⟨hl, rfl, h.set _, Kept.set _ _ _ _⟩
  · rw [if_neg hl]
    refine (take_no W d n s (by unfold maxLen; omega) h (by omega) (by unfold maxLen; omega)).mono ?_
    rintro e w' ⟨rfl, rfl⟩
    exact ⟨rfl, Kept.refl _ _⟩

theorem counted_post (W : World) (d : Nat) (s : ByteArray) (hs : s.size ≤ 2000) (h : Rd W d s) :
    Calls Tryz.prog 115 #[boxV d] W fun e w' => match cntK s with
      | some m => 1 ≤ m ∧ m ≤ s.size ∧ m ≤ 256 ∧ e = .returned (.string (s.extract 1 m)) ∧ Rd w' d (s.extract m s.size) ∧ Kept d W w'
      | none => e = .panicked mustV ∧ Kept d W w' := by
  unfold cntK
  by_cases h0 : 0 < s.size
  · rw [dif_pos h0]
    have hu := s[0].toNat_lt
    by_cases hf : 1 + s[0].toNat ≤ s.size
    · rw [if_pos hf]
      refine (counted_yes W d s (by unfold maxLen; omega) h h0 hf).mono ?_
      rintro e w' ⟨rfl, rfl⟩
      exact ⟨by omega, hf, by omega, rfl, h.set _, Kept.set _ _ _ _⟩
    · rw [if_neg hf]
      refine (counted_no W d s (by unfold maxLen; omega) h h0 (by omega)).mono ?_
      rintro e w' ⟨rfl, hk⟩
      exact ⟨rfl, hk⟩
  · rw [dif_neg h0]
    refine (counted_no0 W d s h (by omega)).mono ?_
    rintro e w' ⟨rfl, rfl⟩
    exact ⟨rfl, Kept.refl _ _⟩

theorem numPass_in (W : World) (b d n : Nat) (hn : n ≤ 100) (hb : W.heap[b]? = some (.cells #[.int .i64 n] 3 (0, 0))) (s : ByteArray) (hs : s.size ≤ 2000) (h : Rd W d s) :
    Calls Tryz.prog 144 #[boxV d, boxV b] W fun e w' => PassPost (takeK n s) s d W w' e := by
  have c0 := box_cell hb
  have T := Hid.mk (take_post W d n s hs hn h)
  cases hr : takeK n s with
  | some m =>
    rw [hr] at T
    go_enter Tryz.func144, Tryz.ntmps144
    go_wp2_with fail
    refine T.out.mono ?_
    rintro e w1 ⟨hm, rfl, hr1, hk1⟩
    go_wp2
    exact bodyPost_end (results_none rfl _ _ _) rfl ⟨hm, rfl, hr1, hk1⟩
  | none =>
    rw [hr] at T
    go_enter Tryz.func144, Tryz.ntmps144
    go_wp2_with fail
    refine T.out.mono ?_
    rintro e w1 ⟨rfl, hk1⟩
    go_wp2
    exact ⟨rfl, rfl, hk1⟩

theorem typePass_in (W : World) (d : Nat) (s : ByteArray) (hs : s.size ≤ 2000) (h : Rd W d s) :
    Calls Tryz.prog 166 #[boxV d] W fun e w' => PassPost (takeK 2 s) s d W w' e := by
  have T := Hid.mk (take_post W d 2 s hs (by omega) h)
  cases hr : takeK 2 s with
  | some m =>
    rw [hr] at T
    go_enter Tryz.func166, Tryz.ntmps166
    go_wp2_with fail
    refine T.out.mono ?_
    rintro e w1 ⟨hm, rfl, hr1, hk1⟩
    go_wp2
    exact bodyPost_end (results_none rfl _ _ _) rfl ⟨hm, rfl, hr1, hk1⟩
  | none =>
    rw [hr] at T
    go_enter Tryz.func166, Tryz.ntmps166
    go_wp2_with fail
    refine T.out.mono ?_
    rintro e w1 ⟨rfl, hk1⟩
    go_wp2
    exact ⟨rfl, rfl, hk1⟩

theorem saltPass_in (W : World) (d : Nat) (s : ByteArray) (hs : s.size ≤ 2000) (h : Rd W d s) :
    Calls Tryz.prog 175 #[boxV d] W fun e w' => PassPost (cntK s) s d W w' e := by
  have T := Hid.mk (counted_post W d s hs h)
  cases hr : cntK s with
  | some m =>
    rw [hr] at T
    go_enter Tryz.func175, Tryz.ntmps175
    go_wp2_with fail
    refine T.out.mono ?_
    rintro e w1 ⟨hm1, hm, hm3, rfl, hr1, hk1⟩
    go_wp2
    exact bodyPost_end (results_none rfl _ _ _) rfl ⟨hm, rfl, hr1, hk1⟩
  | none =>
    rw [hr] at T
    go_enter Tryz.func175, Tryz.ntmps175
    go_wp2_with fail
    refine T.out.mono ?_
    rintro e w1 ⟨rfl, hk1⟩
    go_wp2
    exact ⟨rfl, rfl, hk1⟩

theorem cut_ne (s : ByteArray) (m : Nat) (hm : m ≤ s.size) (h1 : 1 < m) : 0 < (s.extract 1 m).size := by rw [ByteArray.size_extract]; omega
theorem cut_e (s : ByteArray) (m : Nat) (h1 : m ≤ 1) : s.extract 1 m = ⟨#[]⟩ := ba_empty _ (by rw [ByteArray.size_extract]; omega)
theorem ne_bne (s : ByteArray) (h : 0 < s.size) : (s.toList != []) = true := by
  have := (ne_text s h).1
  simp only [bne, this, Bool.not_false]

theorem hashPass_in (W : World) (d : Nat) (s : ByteArray) (hs : s.size ≤ 2000) (h : Rd W d s) :
    Calls Tryz.prog 179 #[boxV d] W fun e w' => PassPost (hashK s) s d W w' e := by
  have T := Hid.mk (counted_post W d s hs h)
  unfold hashK
  cases hr : cntK s with
  | some m =>
    rw [hr] at T
    by_cases h1 : 1 < m
    · simp only [if_pos h1]
      go_enter Tryz.func179, Tryz.ntmps179
      go_wp2_with fail
      refine T.out.mono ?_
      rintro e w1 ⟨hm1, hm, hm3, rfl, hr1, hk1⟩
      have hp := cut_ne s m hm h1
      obtain ⟨hn1, hn2⟩ := ne_text _ hp
      have hn3 := ne_bne _ hp
      go_wp2_with fail
      refine (must_yes _).mono ?_
      rintro e w2 ⟨rfl, rfl⟩
      go_wp2
      exact bodyPost_end (results_none rfl _ _ _) rfl ⟨hm, rfl, hr1, hk1⟩
    · simp only [if_neg h1]
      have he := Hid.mk (cut_e s m (by omega))
      go_enter Tryz.func179, Tryz.ntmps179
      go_wp2_with fail
      refine T.out.mono ?_
      rintro e w1 ⟨hm1, hm, hm3, rfl, hr1, hk1⟩
      rw [he.out]
      go_wp2_with fail
      refine (must_no _).mono ?_
      rintro e w2 ⟨rfl, rfl⟩
      go_wp2
      exact ⟨rfl, rfl, hk1⟩
  | none =>
    rw [hr] at T
    go_enter Tryz.func179, Tryz.ntmps179
    go_wp2_with fail
    refine T.out.mono ?_
    rintro e w1 ⟨rfl, hk1⟩
    go_wp2
    exact ⟨rfl, rfl, hk1⟩

theorem hexPass_in (W : World) (d : Nat) (s : ByteArray) (hs : s.size ≤ 2000) (h : Rd W d s) :
    Calls Tryz.prog 161 #[boxV d] W fun e w' => PassPost (if 0 < s.size then some s.size else none) s d W w' e := by
  have T := Hid.mk (all_in W d s (by unfold maxLen; omega) h)
  have hr1 := Hid.mk (h.set ⟨#[]⟩)
  by_cases h0 : 0 < s.size
  · rw [if_pos h0]
    obtain ⟨hn1, hn2⟩ := ne_text s h0
    have hn3 := ne_bne s h0
    have hec := Hid.mk (end_cut s)
    go_enter Tryz.func161, Tryz.ntmps161
    go_wp2_with fail
    refine T.out.mono ?_
    rintro e w1 ⟨rfl, rfl⟩
    go_wp2_with fail
    refine (must_yes _).mono ?_
    rintro e w2 ⟨rfl, rfl⟩
    go_wp2
    refine bodyPost_end (results_none rfl _ _ _) rfl ⟨Nat.le_refl _, rfl, ?_, Kept.set _ _ _ _⟩
    rw [hec.out]; exact hr1.out
  · rw [if_neg h0]
    obtain rfl := ba_empty s (by omega)
    go_enter Tryz.func161, Tryz.ntmps161
    go_wp2_with fail
    refine T.out.mono ?_
    rintro e w1 ⟨rfl, rfl⟩
    go_wp2_with fail
    refine (must_no _).mono ?_
    rintro e w2 ⟨rfl, rfl⟩
    go_wp2
    exact ⟨rfl, rfl, Kept.set _ _ _ _⟩
end Go.Proofs.YtaiakpigljcjbaaGreatDoor

/- How data go past a name. -/
namespace Go.Proofs.YtaiakpigljcjbaaGreatDoor
set_option linter.unusedVariables false
open Go.RowKit

/-- how the loop of passName stands: x is left, lab is the label that came last. -/
def NmRel (R : Option Nat) (s x lab : ByteArray) : Prop :=
  x.size ≤ s.size ∧ x = s.extract (s.size - x.size) s.size ∧ ∃ n, x.size < n ∧ R = if lab.size = 0 then some (s.size - x.size) else (nmGo n x).map (· + (s.size - x.size))

theorem cntK_le {s : ByteArray} {m : Nat} (h : cntK s = some m) : 1 ≤ m ∧ m ≤ s.size := by
  unfold cntK at h
  split at h
  · split at h
    · cases h; omega
    · cases h
  · cases h
theorem nmRel_at {R : Option Nat} {s x lab : ByteArray} {m : Nat} (h : cntK x = some m) (hx : x.size ≤ s.size) (he : x = s.extract (s.size - x.size) s.size) (n : Nat) (hn : x.size < n) (hR : R = (nmGo n x).map (· + (s.size - x.size))) :
    NmRel R s (x.extract m x.size) (x.extract 1 m) := by
  obtain ⟨h1, hm⟩ := cntK_le h
  obtain ⟨n, rfl⟩ : ∃ j, n = j + 1 := ⟨n - 1, by omega⟩
  have hz : (x.extract m x.size).size = x.size - m := by rw [ByteArray.size_extract]; omega
  have hl : (x.extract 1 m).size = m - 1 := by rw [ByteArray.size_extract]; omega
  refine ⟨by omega, ?_, n, by omega, ?_⟩
  · rw [hz]
    conv => lhs; rw [he]
    rw [ByteArray.size_extract, ByteArray.extract_extract]
    congr 1 <;> omega
  · rw [hR, nmGo, h, hl, hz]
    simp only
    by_cases e : m = 1
    · rw [if_pos e, if_pos (by omega), Option.map_some]; congr 1; omega
    · rw [if_neg e, if_neg (by omega), Option.map_map]
      congr 1
      funext j
      simp only [Function.comp]
      omega
theorem nmRel_first {s : ByteArray} {m : Nat} (h : cntK s = some m) : NmRel (nmGo (s.size + 1) s) s (s.extract m s.size) (s.extract 1 m) := by
  refine nmRel_at (lab := s) h (Nat.le_refl _) ?_ (s.size + 1) (by omega) ?_
  · simp
  · simp
theorem nmRel_step {R : Option Nat} {s x lab : ByteArray} {m : Nat} (h : NmRel R s x lab) (hl : lab.size ≠ 0) (hc : cntK x = some m) : NmRel R s (x.extract m x.size) (x.extract 1 m) := by
  obtain ⟨h1, h2, n, hn, hR⟩ := h
  rw [if_neg hl] at hR
  exact nmRel_at (lab := lab) hc h1 h2 n hn hR
theorem nmRel_none {R : Option Nat} {s x lab : ByteArray} (h : NmRel R s x lab) (hl : lab.size ≠ 0) (hc : cntK x = none) : R = none := by
  obtain ⟨h1, h2, n, hn, hR⟩ := h
  obtain ⟨n, rfl⟩ : ∃ j, n = j + 1 := ⟨n - 1, by omega⟩
  rw [if_neg hl, nmGo, hc] at hR
  exact hR
theorem nmRel_end {R : Option Nat} {s x lab : ByteArray} (h : NmRel R s x lab) (hl : lab.size = 0) : R = some (s.size - x.size) ∧ x.size ≤ s.size ∧ x = s.extract (s.size - x.size) s.size := by
  obtain ⟨h1, h2, n, hn, hR⟩ := h
  rw [if_pos hl] at hR
  exact ⟨hR, h1, h2⟩
theorem nmGo_none {s : ByteArray} (h : cntK s = none) : nameK s = none := by
  unfold nameK
  rw [nmGo, h]
theorem nameK_none {s : ByteArray} (h : nmGo (s.size + 1) s = none) : nameK s = none := by
  unfold nameK
  rw [h]
theorem nameK_yes {s : ByteArray} {m : Nat} (h : nmGo (s.size + 1) s = some m) (hn : IsName (s.extract 0 m)) : nameK s = some m := by
  unfold nameK
  rw [h]
  exact if_pos hn
theorem nameK_no {s : ByteArray} {m : Nat} (h : nmGo (s.size + 1) s = some m) (hn : ¬ IsName (s.extract 0 m)) : nameK s = none := by
  unfold nameK
  rw [h]
  exact if_neg hn
theorem right_is (s : ByteArray) (h : IsName s) (w : World) : Calls Tryz.prog 11 #[.string s] w fun e w' => e = .returned (.bool true) ∧ Below w.heap.size w w' := by
  obtain ⟨ls, ho, rfl⟩ := h
  exact right_yes ls ho w

set_option maxHeartbeats 1000000 in
theorem passName_in (W : World) (d : Nat) (s : ByteArray) (hs : s.size ≤ 2000) (h : Rd W d s) :
    Calls Tryz.prog 155 #[boxV d] W fun e w' => PassPost (nameK s) s d W w' e := by
  have hc := h.cell
  have HC := Hid.mk (counted_post W d s hs h)
  cases hcn : cntK s with
  | none =>
    rw [hcn] at HC
    have HN := Hid.mk (nmGo_none hcn)
    clear hcn
    go_enter Tryz.func155, Tryz.ntmps155
    go_wp2_with fail
    refine HC.out.mono ?_
    rintro e w1 ⟨rfl, hk1⟩
    go_wp2
    rw [HN.out]
    exact ⟨rfl, rfl, hk1⟩
  | some m =>
    rw [hcn] at HC
    have HN := Hid.mk (nmRel_first hcn)
    clear hcn
    go_enter Tryz.func155, Tryz.ntmps155
    go_wp2_with fail
    refine HC.out.mono ?_
    rintro e w1 ⟨h1, hm, h256, rfl, hr1, hk1⟩
    go_wp2
    go_loopw [3] (fun lv wr => ∃ (x lab : ByteArray), lv = .string lab ∧ Rd wr d x ∧ x.size ≤ 2000 ∧ Kept d W wr ∧ Hid (NmRel (nmGo (s.size + 1) s) s x lab)) (fun _ wr => rdLen wr d)
    case atStart => exact ⟨_, _, rfl, hr1, by rw [ByteArray.size_extract]; omega, hk1, HN⟩
    case round =>
      obtain ⟨x, lab, rfl, hrd, hx, hkp, HX⟩ := hrel
      have HLn := Hid.mk hrd.len
      by_cases hl0 : 0 < lab.size
      · obtain ⟨hn1, hn2⟩ := ne_text lab hl0
        have hn3 := ne_bne lab hl0
        have HC2 := Hid.mk (counted_post wr d x hx hrd)
        cases hcx : cntK x with
        | none =>
          rw [hcx] at HC2
          have HE := Hid.mk (nameK_none (nmRel_none HX.out (by omega) hcx))
          clear hcx
          go_wp2_with fail
          refine HC2.out.mono ?_
          rintro e w2 ⟨rfl, hk2⟩
          go_wp2
          rw [HE.out]
          exact ⟨rfl, rfl, hkp.trans hk2⟩
        | some j =>
          rw [hcx] at HC2
          have HS := Hid.mk (nmRel_step HX.out (by omega) hcx)
          clear hcx
          go_wp2_with fail
          refine HC2.out.mono ?_
          rintro e w2 ⟨hj1, hj, hj3, rfl, hr2, hk2⟩
          have hez : (x.extract j x.size).size = x.size - j := by rw [ByteArray.size_extract]; omega
          have HLT : Hid (rdLen w2 d < rdLen wr d) := by
            rw [Hid, HLn.out, hr2.len, hez]; omega
          have hrelN : ∃ (x' lab' : ByteArray), Value.string (x.extract 1 j) = .string lab' ∧ Rd w2 d x' ∧ x'.size ≤ 2000 ∧ Kept d W w2 ∧ Hid (NmRel (nmGo (s.size + 1) s) s x' lab') :=
            ⟨_, _, rfl, hr2, by omega, hkp.trans hk2, HS⟩
          go_wp2
          exact ⟨hrelN, HLT.out⟩
      · obtain rfl := ba_empty lab (by omega)
        obtain ⟨hR, hxs, hxe⟩ := nmRel_end HX.out rfl
        have HR := Hid.mk hR
        have HXE := Hid.mk hxe
        have hcl := hrd.cell
        have hw1 : IntKind.i64.wrap ((s.size : Int) - (x.size : Int)) = ((s.size - x.size : Nat) : Int) := by rw [IntKind.wrap_i64]; omega
        have hzx : (s.extract 0 (s.size - x.size)).size ≤ maxLen := by rw [ByteArray.size_extract]; unfold maxLen; omega
        clear hR hxe
        by_cases hnm : IsName (s.extract 0 (s.size - x.size))
        · have HRt := Hid.mk (right_is _ hnm)
          have HNK := Hid.mk (nameK_yes HR.out hnm)
          clear hnm
          go_wp2_with fail
          refine (HRt.out _).mono ?_
          rintro e w3 ⟨rfl, hb3⟩
          go_wp2_with fail
          refine (must_yes _).mono ?_
          rintro e w4 ⟨rfl, rfl⟩
          go_wp2
          refine bodyPost_end (results_none rfl _ _ _) rfl ?_
          rw [HNK.out]
          exact ⟨by omega, rfl, by rw [← HXE.out]; exact hrd.below hb3, hkp.trans (Kept.of_below hb3)⟩
        · have HRt := Hid.mk (right_no _ hnm hzx)
          have HNK := Hid.mk (nameK_no HR.out hnm)
          clear hnm
          go_wp2_with fail
          refine (HRt.out _).mono ?_
          rintro e w3 ⟨rfl, hb3⟩
          go_wp2_with fail
          refine (must_no _).mono ?_
          rintro e w4 ⟨rfl, rfl⟩
          go_wp2
          rw [HNK.out]
          exact ⟨rfl, rfl, hkp.trans (Kept.of_below hb3)⟩
end Go.Proofs.YtaiakpigljcjbaaGreatDoor
