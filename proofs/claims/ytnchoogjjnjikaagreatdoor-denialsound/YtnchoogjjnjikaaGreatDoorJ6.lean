/- Texts of this proof, joined: DTyOf, DTxtTell, DTxtTell2, DTxtTell3, DExA, DTxtForm. -/
import Derived.Test.YtnchoogjjnjikaaGreatDoorJ5
import Derived.Test.YtnchoogjjnjikaaGreatDoorJ4
/- typesOf: the list of types that bytes put down. -/
namespace Go.Proofs.YtnchoogjjnjikaaGreatDoor
set_option linter.unusedVariables false
open Go.RowKit
theorem info3 : (Tryz.prog.info? 3).map (fun i => (i.zero, i.size, i.bytes)) = some (some (.int .i64 0), 1, 8) := by kernel_rfl
def intsV (l : List Nat) : List Value := l.map fun n => .int .i64 ((n : Nat) : Int)
def TyRel (R : Option (List Nat)) (last : Int) (l : List Nat) (x : ByteArray) : Prop := ∃ n, x.size < n ∧ R = (tyGo n last x).map (l ++ ·)
theorem tyRel_first (s : ByteArray) : TyRel (typesR s) (-1) [] s := by
  refine ⟨s.size + 1, by omega, ?_⟩
  unfold typesR
  cases tyGo (s.size + 1) (-1) s <;> rfl
theorem tyRel_end {R : Option (List Nat)} {last : Int} {l : List Nat} {x : ByteArray} (h : TyRel R last l x) (h0 : x.size = 0) : R = some l := by
  obtain ⟨n, hn, hR⟩ := h
  obtain ⟨n, rfl⟩ : ∃ j, n = j + 1 := ⟨n - 1, by omega⟩
  rw [tyGo, dif_neg (by omega)] at hR
  simpa using hR
theorem tyRel_none {R : Option (List Nat)} {last : Int} {l : List Nat} {x : ByteArray} (h : TyRel R last l x) (h0 : 0 < x.size) (hc : cntK (x.extract 1 x.size) = none) : R = none := by
  obtain ⟨n, hn, hR⟩ := h
  obtain ⟨n, rfl⟩ : ∃ j, n = j + 1 := ⟨n - 1, by omega⟩
  rw [tyGo, dif_pos h0, hc] at hR
  exact hR
theorem tyRel_bad {R : Option (List Nat)} {last : Int} {l : List Nat} {x : ByteArray} {m : Nat} (h : TyRel R last l x) (h0 : 0 < x.size) (hc : cntK (x.extract 1 x.size) = some m) (hb : ¬ (last < (x[0].toNat : Int) ∧ m ≤ 33 ∧ lastOk (x.extract 2 (m + 1)).data.toList = true)) : R = none := by
  obtain ⟨n, hn, hR⟩ := h
  obtain ⟨n, rfl⟩ : ∃ j, n = j + 1 := ⟨n - 1, by omega⟩
  rw [tyGo, dif_pos h0, hc] at hR
  simp only [if_neg hb] at hR
  exact hR
theorem tyRel_step {R : Option (List Nat)} {last : Int} {l : List Nat} {x : ByteArray} {m : Nat} (h : TyRel R last l x) (h0 : 0 < x.size) (hc : cntK (x.extract 1 x.size) = some m) (hb : last < (x[0].toNat : Int) ∧ m ≤ 33 ∧ lastOk (x.extract 2 (m + 1)).data.toList = true) :
    TyRel R (x[0].toNat : Int) (l ++ bitsL x[0].toNat (x.extract 2 (m + 1)).data.toList (8 * (m - 1))) (x.extract (m + 1) x.size) := by
  obtain ⟨n, hn, hR⟩ := h
  obtain ⟨n, rfl⟩ : ∃ j, n = j + 1 := ⟨n - 1, by omega⟩
  rw [tyGo, dif_pos h0, hc] at hR
  simp only [if_pos hb, Option.map_map] at hR
  refine ⟨n, by rw [ByteArray.size_extract]; omega, ?_⟩
  rw [hR]
  congr 1
  funext r
  simp
theorem bitsL_zero (w : Nat) (b : List UInt8) : bitsL w b 0 = [] := rfl
theorem bitsL_succ (w : Nat) (b : List UInt8) (n : Nat) : bitsL w b (n + 1) = bitsL w b n ++ (if bitAt b n then [w * 256 + n] else []) := by
  unfold bitsL
  rw [List.range_succ, List.filter_append, List.map_append]
  congr 1
  cases h : bitAt b n <;> simp [h]
theorem bitsL_len (w : Nat) (b : List UInt8) (n : Nat) : (bitsL w b n).length ≤ n := by
  unfold bitsL
  rw [List.length_map]
  refine Nat.le_trans (List.length_filter_le _ _) ?_
  simp
theorem last_at (b : ByteArray) (h : 0 < b.size) : lastOk b.data.toList = (b[b.size - 1] != 0) := by
  have e : b.data.toList.getLast? = some b[b.size - 1] := by
    rw [List.getLast?_eq_getElem?, size_list, List.getElem?_eq_getElem (by rw [size_list]; omega)]
    rfl
  rw [lastOk, e]
theorem bit_at (b : ByteArray) (n : Nat) (h : n / 8 < b.size) : bitAt b.data.toList n = (b[n / 8].toNat / 2 ^ (7 - n % 8) % 2 == 1) := by
  have e : b.data.toList.getD (n / 8) 0 = b[n / 8] := by
    rw [List.getD_eq_getElem?_getD, List.getElem?_eq_getElem (by rw [size_list]; exact h)]
    rfl
  rw [bitAt, e]
theorem and1_u8 (a : Nat) (ha : a < 256) : Go.bits BinOp.and IntKind.u8 (a : Int) 1 = ((a % 2 : Nat) : Int) := by
  have h1 : (BitVec.ofInt 8 (a : Int)).toNat = a := by
    rw [BitVec.ofInt_natCast, BitVec.toNat_ofNat]; exact Nat.mod_eq_of_lt (by omega)
  show IntKind.u8.wrap ((BitVec.ofInt 8 (a : Int) &&& BitVec.ofInt 8 (1 : Int)).toNat : Int) = _
  rw [BitVec.toNat_and, h1, show (BitVec.ofInt 8 (1 : Int)).toNat = 1 from rfl, Nat.and_one_is_mod, IntKind.wrap_u8]
  omega
theorem bit_walk (b : ByteArray) (n : Nat) (h : n / 8 < b.size) : (Go.bits BinOp.and IntKind.u8 ((b[n / 8].toNat : Int) / 2 ^ (7 - n % 8)) 1 == 1) = bitAt b.data.toList n := by
  have hu := b[n / 8].toNat_lt
  have e : ((b[n / 8].toNat : Int) / 2 ^ (7 - n % 8)) = ((b[n / 8].toNat / 2 ^ (7 - n % 8) : Nat) : Int) := by push_cast; rfl
  have hq : b[n / 8].toNat / 2 ^ (7 - n % 8) < 256 := Nat.lt_of_le_of_lt (Nat.div_le_self _ _) (by omega)
  rw [bit_at b n h, e, and1_u8 _ hq, Bool.eq_iff_iff, beq_iff_eq, beq_iff_eq]
  omega
def TyPost (R : Option (List Nat)) (W : World) (e : Ending) (w' : World) : Prop := (match R with
  | some l => ∃ v, e = .returned v ∧ w'.ownsRow W.heap.size 3 1 v l.length (intsV l)
  | none => e = .panicked mustV) ∧ Below W.heap.size W w'
theorem cut_two (x : ByteArray) (m : Nat) (hm : m ≤ x.size - 1) (h0 : 0 < x.size) : (x.extract 1 x.size).extract 1 m = x.extract 2 (m + 1) ∧ (x.extract 1 x.size).extract m (x.extract 1 x.size).size = x.extract (m + 1) x.size := by
  constructor
  · rw [ByteArray.extract_extract]
    congr 1
    omega
  · rw [ByteArray.size_extract, ByteArray.extract_extract]
    congr 1 <;> omega
set_option maxRecDepth 100000 in
set_option maxHeartbeats 4000000 in
theorem typesOf_in (W : World) (s : ByteArray) (hs : s.size ≤ 2000) :
    Calls Tryz.prog 94 #[.string s] W fun e w' => TyPost (typesR s) W e w' := by
  obtain ⟨i0, hi, hz0, hz1, hz2⟩ := info_parts info3
  have HF := Hid.mk (tyRel_first s)
  obtain ⟨R, hR⟩ : ∃ R, typesR s = R := ⟨_, rfl⟩
  rw [hR] at HF ⊢
  clear hR
  go_enter Tryz.func94, Tryz.ntmps94
  go_wp2
  go_loopw [4, 5] (fun lv tv wr => ∃ (l : List Nat) (last : Int) (x : ByteArray), tv = .int .i64 last ∧ -1 ≤ last ∧ last ≤ 255 ∧ wr.ownsRow (W.heap.size + 1) 3 1 lv l.length (intsV l) ∧ l.length + 8 * x.size ≤ 16000 ∧ Rd wr W.heap.size x ∧ x.size ≤ 2000 ∧ Hid (TyRel R last l x) ∧ Below W.heap.size W wr ∧ W.heap.size + 1 ≤ wr.heap.size) (fun _ _ wr => rdLen wr W.heap.size)
  case atStart => exact ⟨[], -1, s, rfl, by omega, by omega, World.ownsRow_nil .., by simp; omega, heap_new _ _, hs, HF, (Below.refl _ _).alloc (Nat.le_refl _) _, by simp⟩
  case round =>
    obtain ⟨l, last, x, rfl, hl1, hl2, hrow, hll, hrd, hx, HX, hbl, hsz⟩ := hrel
    have HLn := Hid.mk hrd.len
    have hcl := hrd.cell
    by_cases h0 : 0 < x.size
    · obtain ⟨hn1, hn2⟩ := ne_text x h0
      have hn3 := ne_bne x h0
      have T1 := Hid.mk (take_yes wr W.heap.size 1 x (by unfold maxLen; omega) hrd (by omega))
      have HN := Hid.mk (number_one x h0)
      have hr1 := hrd.set (x.extract 1 x.size)
      have hk1 := Kept.set W.heap.size 0 wr (.string (x.extract 1 x.size))
      have hxz : (x.extract 1 x.size).size = x.size - 1 := by rw [ByteArray.size_extract]; omega
      have HC := Hid.mk (counted_post _ W.heap.size (x.extract 1 x.size) (by omega) hr1)
      have hb0 := x[0].toNat_lt
      cases hcn : cntK (x.extract 1 x.size) with
      | none =>
        rw [hcn] at HC
        have HRn := Hid.mk (tyRel_none HX.out h0 hcn)
        clear hcn
        go_wp2_with fail
        refine T1.out.mono ?_
        rintro e w1 ⟨rfl, rfl⟩
        go_wp2_with fail
        refine (HN.out _).mono ?_
        rintro e w2 ⟨rfl, rfl⟩
        go_wp2_with fail
        refine HC.out.mono ?_
        rintro e w3 ⟨rfl, hk3⟩
        go_wp2
        rw [HRn.out]
        refine ⟨rfl, rfl, hbl.trans ((hk1.trans hk3).below (Nat.le_refl _) (by omega))⟩
      | some m =>
        rw [hcn] at HC
        obtain ⟨hm1, hm⟩ := cntK_le hcn
        rw [hxz] at hm
        have he12 := cut_two x m hm h0
        have HC2 : Hid (Calls Tryz.prog 126 #[boxV W.heap.size] (wr.setCell ⟨W.heap.size, 0, none⟩ (.string (x.extract 1 x.size))) fun e w' => e = .returned (.string (x.extract 2 (m + 1))) ∧ Rd w' W.heap.size (x.extract (m + 1) x.size) ∧ Kept W.heap.size wr w') := by
          refine HC.out.mono ?_
          rintro e w' ⟨_, _, _, he, hr, hk⟩
          rw [he12.1] at he
          rw [he12.2] at hr
          exact ⟨he, hr, hk1.trans hk⟩
        have hbz : (x.extract 2 (m + 1)).size = m - 1 := by rw [ByteArray.size_extract]; omega
        have hxr : (x.extract (m + 1) x.size).size = x.size - (m + 1) := by rw [ByteArray.size_extract]; omega
        have HST := Hid.mk (tyRel_step HX.out h0 hcn)
        have HBD := Hid.mk (tyRel_bad HX.out h0 hcn)
        clear HC hr1 hk1 he12 hcn hxz
        generalize x.extract 2 (m + 1) = bits at HC2 hbz HST HBD
        generalize x.extract (m + 1) x.size = rest at HC2 hxr HST
        generalize x.extract 1 x.size = x1 at T1 HC2
        generalize x[0].toNat = wn at HN HST HBD hb0
        go_wp2_with fail
        refine T1.out.mono ?_
        rintro e w1 ⟨rfl, rfl⟩
        go_wp2_with fail
        refine (HN.out _).mono ?_
        rintro e w2 ⟨rfl, rfl⟩
        go_wp2_with fail
        refine HC2.out.mono ?_
        rintro e w3 ⟨rfl, hr3, hk3⟩
        have hbl3 : Below W.heap.size W w3 := hbl.trans (hk3.below (Nat.le_refl _) (by omega))
        have hsz3 : W.heap.size + 1 ≤ w3.heap.size := Nat.le_trans hsz hk3.size
        have hrow3 := row_kept' hrow hk3 (by omega)
        have HLN3 : Hid (rdLen w3 W.heap.size = rest.size) := hr3.len
        clear T1 HN HC2 hrow hrd hbl hk3 hcl
        have HBZ := Hid.mk hbz
        have HXR := Hid.mk hxr
        have hbb : bits.size ≤ 2000 := by omega
        have hrb : rest.size ≤ 2000 := by omega
        clear hbz hxr
        by_cases c1 : last < (wn : Int)
        · by_cases c2 : 0 < bits.size
          · obtain ⟨hm1b, hm2b⟩ := ne_text bits c2
            have hm3b := ne_bne bits c2
            have hwb : IntKind.i64.wrap ((bits.size : Int) - 1) = ((bits.size - 1 : Nat) : Int) := by rw [IntKind.wrap_i64]; omega
            have hib : bits.size - 1 < bits.size := by omega
            by_cases c3 : bits.size ≤ 32
            · have hla := last_at bits c2
              by_cases c4 : bits[bits.size - 1].toNat = 0
              · have hne : ((bits[bits.size - 1].toNat : Int) != 0) = false := by rw [c4]; rfl
                have HRN : Hid (R = none) := by
                  refine HBD.out ?_
                  rintro ⟨_, _, h3⟩
                  rw [hla, bne_iff_ne] at h3
                  exact h3 (UInt8.toNat_inj.1 c4)
                clear HST HBD hla c4
                go_wp2_with fail
                refine (must_no _).mono ?_
                rintro e w4 ⟨rfl, rfl⟩
                go_wp2
                rw [HRN.out]
                exact ⟨rfl, rfl, hbl3⟩
              · have hne : ((bits[bits.size - 1].toNat : Int) != 0) = true := by rw [bne_iff_ne]; omega
                have hcond : last < (wn : Int) ∧ m ≤ 33 ∧ lastOk bits.data.toList = true := by
                  refine ⟨c1, by have := HBZ.out; omega, ?_⟩
                  rw [hla, bne_iff_ne]
                  intro e
                  rw [e] at c4
                  exact c4 rfl
                have HST2 := Hid.mk (HST.out hcond)
                have hw8 : IntKind.i64.wrap (8 * (bits.size : Int)) = ((8 * bits.size : Nat) : Int) := by rw [IntKind.wrap_i64]; omega
                clear HST HBD hla hcond c4
                go_wp2_with fail
                refine (must_yes _).mono ?_
                rintro e w4 ⟨rfl, rfl⟩
                go_wp2
                go_loopw [4, 47] (fun lv iv wr2 => ∃ n : Nat, n ≤ 8 * bits.size ∧ iv = .int .i64 n ∧ wr2.ownsRow (W.heap.size + 1) 3 1 lv (l ++ bitsL wn bits.data.toList n).length (intsV (l ++ bitsL wn bits.data.toList n)) ∧ Below (W.heap.size + 1) w4 wr2 ∧ W.heap.size + 1 ≤ wr2.heap.size) (fun _ iv _ => 8 * bits.size - (intOf iv).toNat)
                case atStart => exact ⟨0, by omega, rfl, by rw [bitsL_zero, List.append_nil]; exact hrow3, Below.refl _ _, hsz3⟩
                case round =>
                  obtain ⟨n, hn, rfl, hrw, hbl4, hsz4⟩ := hrel
                  by_cases hlt : n < 8 * bits.size
                  · have hidx : n / 8 < bits.size := by omega
                    have hbw := bit_walk bits n hidx
                    have hor := or_low wn n (by omega) (by omega)
                    have hlb := bitsL_len wn bits.data.toList n
                    have hLL : (l ++ bitsL wn bits.data.toList n).length ≤ 17000 := by rw [List.length_append]; omega
                    have HNX := Hid.mk (bitsL_succ wn bits.data.toList n)
                    cases hbt : bitAt bits.data.toList n with
                    | true =>
                      rw [hbt] at hbw HNX
                      have HNL : Hid (l ++ bitsL wn bits.data.toList (n + 1) = (l ++ bitsL wn bits.data.toList n) ++ [wn * 256 + n]) := by
                        rw [Hid, HNX.out, List.append_assoc]; rfl
                      clear hbt HNX hlb
                      generalize l ++ bitsL wn bits.data.toList n = L at hrw hLL HNL
                      go_wp2_with (at_builtin; refine wpList_append_own _ rfl _ _ 32 rfl (W.heap.size + 1) 3 i0 (.int .i64 0) 1 8 Tryz.underlying32 hi hz0 hz1 hz2 rfl (by decide) _ _ _ rfl (hrw.alloc _) ⟨wr.heap.size, 0, none⟩ 1 1 [.int .i64 ((wn * 256 + n : Nat) : Int)] rfl rfl (cell_one_new _ _ _) (by simp [Value.oneCell']) (by unfold maxLen; omega) (by omega) (by simp; omega) ?_; intro v1 w5 hown5 hgrow5 _)
                      have hb5 : Below (W.heap.size + 1) w4 w5 := (hbl4.alloc hsz4 _).grown hgrow5 (by simp; omega) (rowBaseB hrw)
                      have hs5 : W.heap.size + 1 ≤ w5.heap.size := Nat.le_trans hsz3 hb5.size
                      go_roundw
                      case rel =>
                        refine ⟨n + 1, by omega, by go_num, ?_, hb5, hs5⟩
                        rw [HNL.out, List.length_append, intsV, List.map_append]; exact hown5
                      case measure => simp [intOf]; omega
                    | false =>
                      rw [hbt] at hbw HNX
                      have HNL : Hid (l ++ bitsL wn bits.data.toList (n + 1) = l ++ bitsL wn bits.data.toList n) := by
                        rw [Hid, HNX.out]; simp
                      clear hbt HNX hlb
                      generalize l ++ bitsL wn bits.data.toList n = L at hrw hLL HNL
                      go_wp2
                      exact ⟨⟨n + 1, by omega, by go_num, by rw [HNL.out]; exact hrw, hbl4, hsz4⟩, by simp [intOf]; omega⟩
                  · obtain rfl : n = 8 * bits.size := by omega
                    have hlb := bitsL_len wn bits.data.toList (8 * bits.size)
                    have hr5 : Rd wr W.heap.size rest := (hbl4.block _ (by omega)).trans hr3
                    have HL5 := Hid.mk hr5.len
                    have hbl5 : Below W.heap.size W wr := hbl3.trans (hbl4.mono (by omega))
                    have hlen5 : (l ++ bitsL wn bits.data.toList (8 * bits.size)).length + 8 * rest.size ≤ 16000 := by
                      have := HBZ.out
                      have := HXR.out
                      rw [List.length_append]; omega
                    have HT5 : Hid (TyRel R (wn : Int) (l ++ bitsL wn bits.data.toList (8 * bits.size)) rest) := by
                      rw [Hid, HBZ.out]; exact HST2.out
                    have HM5 : Hid (rest.size < x.size) := by have := HXR.out; rw [Hid]; omega
                    clear hlb HST2 hr3 hrow3 hne hwb hw8 HBZ HXR
                    generalize l ++ bitsL wn bits.data.toList (8 * bits.size) = L at hrw hlen5 HT5
                    go_wp2
                    refine ⟨⟨L, wn, rest, rfl, by omega, by omega, hrw, hlen5, hr5, hrb, HT5, hbl5, hsz4⟩, ?_⟩
                    rw [HL5.out, HLn.out]; exact HM5.out
            · have HRN : Hid (R = none) := HBD.out (fun h => by have := HBZ.out; omega)
              clear HST HBD
              go_wp2_with fail
              refine (must_no _).mono ?_
              rintro e w4 ⟨rfl, rfl⟩
              go_wp2
              rw [HRN.out]
              exact ⟨rfl, rfl, hbl3⟩
          · obtain rfl := ba_empty bits (by omega)
            have HRN : Hid (R = none) := HBD.out (fun h => by have := h.2.2; cases this)
            clear HST HBD
            go_wp2_with fail
            refine (must_no _).mono ?_
            rintro e w4 ⟨rfl, rfl⟩
            go_wp2
            rw [HRN.out]
            exact ⟨rfl, rfl, hbl3⟩
        · have HRN : Hid (R = none) := HBD.out (fun h => c1 h.1)
          clear HST HBD
          go_wp2_with fail
          refine (must_no _).mono ?_
          rintro e w4 ⟨rfl, rfl⟩
          go_wp2
          rw [HRN.out]
          exact ⟨rfl, rfl, hbl3⟩
    · obtain rfl := ba_empty x (by omega)
      have HRE := Hid.mk (tyRel_end HX.out rfl)
      obtain ⟨q, c, hv⟩ := row_as hrow
      subst hv
      go_wp2
      go_ret
      rw [HRE.out]
      exact ⟨⟨_, rfl, row_down hrow (by omega)⟩, hbl⟩
end Go.Proofs.YtnchoogjjnjikaaGreatDoor
/- A string of TXT, how it is told. -/
namespace Go.Proofs.YtnchoogjjnjikaaGreatDoor
set_option linter.unusedVariables false
open Go.RowKit
end Go.Proofs.YtnchoogjjnjikaaGreatDoor
/- Strings of TXT, how they are told. -/
namespace Go.Proofs.YtnchoogjjnjikaaGreatDoor
set_option linter.unusedVariables false
open Go.RowKit
theorem row_back {w : World} {base : Nat} {v : Value} {n : Nat} {l : List UInt8} {xs : List Value} (h : w.ownsRow base 5 1 v n xs) (hn : n = l.length) (hx : xs = Lib.byteCells l) : (convert 58 9 v).run Tryz.prog w = .ok (.string ⟨l.toArray⟩) w := by
  subst hn
  subst hx
  rcases h.2 with ⟨rfl, h0⟩ | ⟨g', cap', cur, rfl, _, hg, _, _, _, ht⟩
  · obtain rfl : l = [] := List.length_eq_zero_iff.1 h0
    kernel_rfl
  · exact run_convert_bytes_back (P := Tryz.prog) w 58 9 5 ⟨g', 0, none⟩ cap' l Tryz.underlying58 Tryz.underlying5 Tryz.underlying9 (fun j hj => Lib.cells_of_row (w := w) hg l.length j _ (by rw [Nat.mul_one] at ht; rw [ht]; simp [Lib.byteCells, hj]))
end Go.Proofs.YtnchoogjjnjikaaGreatDoor
/- TXT: how it is told, whole. -/
namespace Go.Proofs.YtnchoogjjnjikaaGreatDoor
set_option linter.unusedVariables false
open Go.RowKit
def spl : Nat → ByteArray → List ByteArray
  | 0, _ => []
  | n + 1, s => if h : 0 < s.size then s.extract 1 (1 + s[0].toNat) :: spl n (s.extract (1 + s[0].toNat) s.size) else []
end Go.Proofs.YtnchoogjjnjikaaGreatDoor
/- The chapter's two readings of A. -/
namespace Go.Proofs.YtnchoogjjnjikaaGreatDoor
set_option linter.unusedVariables false
open Go.RowKit
end Go.Proofs.YtnchoogjjnjikaaGreatDoor
/- The form of TXT: split, told, read. -/
namespace Go.Proofs.YtnchoogjjnjikaaGreatDoor
set_option linter.unusedVariables false
open Go.RowKit
abbrev txtP : Array Value := #[fnV 150 #[], fnV 151 #[], fnV 152 #[], .bool false]
theorem stringsPart_in (w : World) : Calls Tryz.prog 115 #[] w fun e w' => e = .returned (.agg txtP) ∧ Below w.heap.size w w' := by
  have hmf := mkf
  go_enter Tryz.func115, Tryz.ntmps115
  go_wp2
  exact bodyPost_ret (v := .agg txtP) (by simp [results, Tryz.results115, go_sem]) rfl ⟨rfl, by first | exact (Below.refl _ _).alloc (Nat.le_refl _) _ | exact Below.refl _ _⟩
set_option maxRecDepth 100000 in
theorem partsOf_T (w : World) : Calls Tryz.prog 91 #[.int .i64 16] w fun e w' => ∃ g, w.heap.size ≤ g ∧
    e = .returned (.slice (some ⟨g, 0, none⟩) 1 1) ∧ w'.heap[g]? = some (.cells txtP 156 (0, 0)) ∧ Below w.heap.size w w' := by
  have hmf := mkf
  go_enter Tryz.func91, Tryz.ntmps91
  go_wp2_with fail
  refine (numberPart_in _ _).mono ?_
  rintro e w1 ⟨rfl, ho1, hb1⟩
  go_wp2_with fail
  refine (numberPart_in _ _).mono ?_
  rintro e w2 ⟨rfl, ho2, hb2⟩
  go_wp2_with fail
  refine (numberPart_in _ _).mono ?_
  rintro e w3 ⟨rfl, ho3, hb3⟩
  clear ho1 ho2 ho3
  go_wp2_with fail
  refine (stringsPart_in _).mono ?_
  rintro e w4 ⟨rfl, hb4⟩
  have k3 : Below w.heap.size w w3 := bth (bth hb1 hb2 hb1.size) hb3 (Nat.le_trans hb1.size hb2.size)
  have s3 := k3.size
  have k6 : Below w.heap.size w w4 := (((k3.alloc s3 _).alloc (by simp; omega) _).alloc (by simp; omega) _).trans (hb4.mono (by simp; omega))
  clear hb1 hb2 hb3 hb4
  go_wp2
  go_ret
  exact ⟨w4.heap.size, k6.size, rfl, heap_new _ _, k6.alloc k6.size _⟩
def txtPart : Part := ⟨150, #[], 151, #[], 152, #[], false⟩
end Go.Proofs.YtnchoogjjnjikaaGreatDoor