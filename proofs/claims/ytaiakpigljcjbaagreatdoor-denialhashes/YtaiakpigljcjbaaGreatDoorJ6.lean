/- Texts of this proof, joined: DTyOf, DTxtTell, DTxtTell2, DTxtTell3, DExA, DTxtForm. -/
import Derived.Test.YtaiakpigljcjbaaGreatDoorJ5
import Derived.Test.YtaiakpigljcjbaaGreatDoorJ4
/- typesOf: the list of types that bytes put down. -/
namespace Go.Proofs.YtaiakpigljcjbaaGreatDoor
set_option linter.unusedVariables false
open Go.RowKit

theorem info3 : (Tryz.prog.info? 3).map (fun i => (i.zero, i.size, i.bytes)) = some (some (.int .i64 0), 1, 8) := by kernel_rfl
def intsV (l : List Nat) : List Value := l.map fun n => .int .i64 ((n : Nat) : Int)

def TyRel (R : Option (List Nat)) (last : Int) (l : List Nat) (x : ByteArray) : Prop := ∃ n, x.size < n ∧ R = (tyGo n last x).map (l ++ ·)
theorem tyRel_first (s : ByteArray) : TyRel (typesR s) (-1) [] s := by
  refine ⟨s.size + 1, by omega, ?_⟩
  unfold typesR
  cases tyGo (s.size + 1) (-1) s <;> rfl
theorem tyRel_end {R : Option (List Nat)} {last : Int} {l : List Nat} {x : ByteArray} (h : TyRel R last l x) (h0 : x.size = 0) : R = some l := by
  obtain ⟨n, hn, hR⟩ := h
  obtain ⟨n, rfl⟩ : ∃ j, n = j + 1 := ⟨n - 1, by omega⟩
  rw [tyGo, dif_neg (by omega)] at hR
  simpa using hR
theorem tyRel_none {R : Option (List Nat)} {last : Int} {l : List Nat} {x : ByteArray} (h : TyRel R last l x) (h0 : 0 < x.size) (hc : cntK (x.extract 1 x.size) = none) : R = none := by
  obtain ⟨n, hn, hR⟩ := h
  obtain ⟨n, rfl⟩ : ∃ j, n = j + 1 := ⟨n - 1, by omega⟩
  rw [tyGo, dif_pos h0, hc] at hR
  exact hR
theorem tyRel_bad {R : Option (List Nat)} {last : Int} {l : List Nat} {x : ByteArray} {m : Nat} (h : TyRel R last l x) (h0 : 0 < x.size) (hc : cntK (x.extract 1 x.size) = some m) (hb : ¬ (last < (x[0].toNat : Int) ∧ m ≤ 33 ∧ lastOk (x.extract 2 (m + 1)).data.toList = true)) : R = none := by
  obtain ⟨n, hn, hR⟩ := h
  obtain ⟨n, rfl⟩ : ∃ j, n = j + 1 := ⟨n - 1, by omega⟩
  rw [tyGo, dif_pos h0, hc] at hR
  simp only [if_neg hb] at hR
  exact hR
theorem tyRel_step {R : Option (List Nat)} {last : Int} {l : List Nat} {x : ByteArray} {m : Nat} (h : TyRel R last l x) (h0 : 0 < x.size) (hc : cntK (x.extract 1 x.size) = some m) (hb : last < (x[0].toNat : Int) ∧ m ≤ 33 ∧ lastOk (x.extract 2 (m + 1)).data.toList = true) :
    TyRel R (x[0].toNat : Int) (l ++ bitsL x[0].toNat (x.extract 2 (m + 1)).data.toList (8 * (m - 1))) (x.extract (m + 1) x.size) := by
  obtain ⟨n, hn, hR⟩ := h
  obtain ⟨n, rfl⟩ : ∃ j, n = j + 1 := ⟨n - 1, by omega⟩
  rw [tyGo, dif_pos h0, hc] at hR
  simp only [if_pos hb, Option.map_map] at hR
  refine ⟨n, by rw [ByteArray.size_extract]; omega, ?_⟩
  rw [hR]
  congr 1
  funext r
  simp

theorem bitsL_zero (w : Nat) (b : List UInt8) : bitsL w b 0 = [] := rfl
theorem bitsL_succ (w : Nat) (b : List UInt8) (n : Nat) : bitsL w b (n + 1) = bitsL w b n ++ (if bitAt b n then [w * 256 + n] else []) := by
  unfold bitsL
  rw [List.range_succ, List.filter_append, List.map_append]
  congr 1
  cases h : bitAt b n <;> simp [h]
theorem bitsL_len (w : Nat) (b : List UInt8) (n : Nat) : (bitsL w b n).length ≤ n := by
  unfold bitsL
  rw [List.length_map]
  refine Nat.le_trans (List.length_filter_le _ _) ?_
  simp
theorem last_at (b : ByteArray) (h : 0 < b.size) : lastOk b.data.toList = (b[b.size - 1] != 0) := by
  have e : b.data.toList.getLast? = some b[b.size - 1] := by
    rw [List.getLast?_eq_getElem?, size_list, List.getElem?_eq_getElem (by rw [size_list]; omega)]
    rfl
  rw [lastOk, e]
theorem bit_at (b : ByteArray) (n : Nat) (h : n / 8 < b.size) : bitAt b.data.toList n = (b[n / 8].toNat / 2 ^ (7 - n % 8) % 2 == 1) := by
  have e : b.data.toList.getD (n / 8) 0 = b[n / 8] := by
    rw [List.getD_eq_getElem?_getD, List.getElem?_eq_getElem (by rw [size_list]; exact h)]
    rfl
  rw [bitAt, e]

theorem and1_u8 (a : Nat) (ha : a < 256) : Go.bits BinOp.and IntKind.u8 (a : Int) 1 = ((a % 2 : Nat) : Int) := by
  have h1 : (BitVec.ofInt 8 (a : Int)).toNat = a := by
    rw [BitVec.ofInt_natCast, BitVec.toNat_ofNat]; exact Nat.mod_eq_of_lt (by omega)
  show IntKind.u8.wrap ((BitVec.ofInt 8 (a : Int) &&& BitVec.ofInt 8 (1 : Int)).toNat : Int) = _
  rw [BitVec.toNat_and, h1, show (BitVec.ofInt 8 (1 : Int)).toNat = 1 from rfl, Nat.and_one_is_mod, IntKind.wrap_u8]
  omega
theorem bit_walk (b : ByteArray) (n : Nat) (h : n / 8 < b.size) : (Go.bits BinOp.and IntKind.u8 ((b[n / 8].toNat : Int) / 2 ^ (7 - n % 8)) 1 == 1) = bitAt b.data.toList n := by
  have hu := b[n / 8].toNat_lt
  have e : ((b[n / 8].toNat : Int) / 2 ^ (7 - n % 8)) = ((b[n / 8].toNat / 2 ^ (7 - n % 8) : Nat) : Int) := by push_cast; rfl
  have hq : b[n / 8].toNat / 2 ^ (7 - n % 8) < 256 := Nat.lt_of_le_of_lt (Nat.div_le_self _ _) (by omega)
  rw [bit_at b n h, e, and1_u8 _ hq, Bool.eq_iff_iff, beq_iff_eq, beq_iff_eq]
  omega

/-- what typesOf hands back. -/
def TyPost (R : Option (List Nat)) (W : World) (e : Ending) (w' : World) : Prop := (match R with
  | some l => ∃ v, e = .returned v ∧ w'.ownsRow W.heap.size 3 1 v l.length (intsV l)
  | none => e = .panicked mustV) ∧ Below W.heap.size W w'

theorem cut_two (x : ByteArray) (m : Nat) (hm : m ≤ x.size - 1) (h0 : 0 < x.size) : (x.extract 1 x.size).extract 1 m = x.extract 2 (m + 1) ∧ (x.extract 1 x.size).extract m (x.extract 1 x.size).size = x.extract (m + 1) x.size := by
  constructor
  · rw [ByteArray.extract_extract]
    congr 1
    omega
  · rw [ByteArray.size_extract, ByteArray.extract_extract]
    congr 1 <;> omega
theorem len_le_ty {R : Option (List Nat)} {l : List Nat} : l.length ≤ 100000 → (intsV l).length ≤ 100000 := by simp [intsV]

set_option maxRecDepth 100000 in
set_option maxHeartbeats 4000000 in
theorem typesOf_in (W : World) (s : ByteArray) (hs : s.size ≤ 2000) :
    Calls Tryz.prog 91 #[.string s] W fun e w' => TyPost (typesR s) W e w' := by
  obtain ⟨i0, hi, hz0, hz1, hz2⟩ := info_parts info3
  have HF := Hid.mk (tyRel_first s)
  obtain ⟨R, hR⟩ : ∃ R, typesR s = R := ⟨_, rfl⟩
  rw [hR] at HF ⊢
  clear hR
  go_enter Tryz.func91, Tryz.ntmps91
  go_wp2
  go_loopw [4, 5] (fun lv tv wr => ∃ (l : List Nat) (last : Int) (x : ByteArray), tv = .int .i64 last ∧ -1 ≤ last ∧ last ≤ 255 ∧ wr.ownsRow (W.heap.size + 1) 3 1 lv l.length (intsV l) ∧ l.length + 8 * x.size ≤ 16000 ∧ Rd wr W.heap.size x ∧ x.size ≤ 2000 ∧ Hid (TyRel R last l x) ∧ Below W.heap.size W wr ∧ W.heap.size + 1 ≤ wr.heap.size) (fun _ _ wr => rdLen wr W.heap.size)
  case atStart => exact ⟨[], -1, s, rfl, by omega, by omega, World.ownsRow_nil .., by simp; omega, heap_new _ _, hs, HF, (Below.refl _ _).alloc (Nat.le_refl _) _, by simp⟩
  case round =>
    obtain ⟨l, last, x, rfl, hl1, hl2, hrow, hll, hrd, hx, HX, hbl, hsz⟩ := hrel
    have HLn := Hid.mk hrd.len
    have hcl := hrd.cell
    by_cases h0 : 0 < x.size
    · obtain ⟨hn1, hn2⟩ := ne_text x h0
      have hn3 := ne_bne x h0
      have T1 := Hid.mk (take_yes wr W.heap.size 1 x (by unfold maxLen; omega) hrd (by omega))
      have HN := Hid.mk (number_one x h0)
      have hr1 := hrd.set (x.extract 1 x.size)
      have hk1 := Kept.set W.heap.size 0 wr (.string (x.extract 1 x.size))
      have hxz : (x.extract 1 x.size).size = x.size - 1 := by rw [ByteArray.size_extract]; omega
      have HC := Hid.mk (counted_post _ W.heap.size (x.extract 1 x.size) (by omega) hr1)
      have hb0 := x[0].toNat_lt
      cases hcn : cntK (x.extract 1 x.size) with
      | none =>
        rw [hcn] at HC
        have HRn := Hid.mk (tyRel_none HX.out h0 hcn)
        clear hcn
        go_wp2_with fail
        refine T1.out.mono ?_
        rintro e w1 ⟨rfl, rfl⟩
        go_wp2_with fail
        refine (HN.out _).mono ?_
        rintro e w2 ⟨rfl, rfl⟩
        go_wp2_with fail
        refine HC.out.mono ?_
        rintro e w3 ⟨rfl, hk3⟩
        go_wp2
        rw [HRn.out]
        refine ⟨rfl, rfl, hbl.trans ((hk1.trans hk3).below (Nat.le_refl _) (by omega))⟩
      | some m =>
        rw [hcn] at HC
        obtain ⟨hm1, hm⟩ := cntK_le hcn
        rw [hxz] at hm
        have he12 := cut_two x m hm h0
        have HC2 : Hid (Calls Tryz.prog 115 #[boxV W.heap.size] (wr.setCell ⟨W.heap.size, 0, none⟩ (.string (x.extract 1 x.size))) fun e w' => e = .returned (.string (x.extract 2 (m + 1))) ∧ Rd w' W.heap.size (x.extract (m + 1) x.size) ∧ Kept W.heap.size wr w') := by
          refine HC.out.mono ?_
          rintro e w' ⟨_, _, _, he, hr, hk⟩
          rw [he12.1] at he
          rw [he12.2] at hr
          exact ⟨he, hr, hk1.trans hk⟩
        have hbz : (x.extract 2 (m + 1)).size = m - 1 := by rw [ByteArray.size_extract]; omega
        have hxr : (x.extract (m + 1) x.size).size = x.size - (m + 1) := by rw [ByteArray.size_extract]; omega
        have HST := Hid.mk (tyRel_step HX.out h0 hcn)
        have HBD := Hid.mk (tyRel_bad HX.out h0 hcn)
        clear HC hr1 hk1 he12 hcn hxz
        generalize x.extract 2 (m + 1) = bits at HC2 hbz HST HBD
        generalize x.extract (m + 1) x.size = rest at HC2 hxr HST
        generalize x.extract 1 x.size = x1 at T1 HC2
        generalize x[0].toNat = wn at HN HST HBD hb0
        go_wp2_with fail
        refine T1.out.mono ?_
        rintro e w1 ⟨rfl, rfl⟩
        go_wp2_with fail
        refine (HN.out _).mono ?_
        rintro e w2 ⟨rfl, rfl⟩
        go_wp2_with fail
        refine HC2.out.mono ?_
        rintro e w3 ⟨rfl, hr3, hk3⟩
        have hbl3 : Below W.heap.size W w3 := hbl.trans (hk3.below (Nat.le_refl _) (by omega))
        have hsz3 : W.heap.size + 1 ≤ w3.heap.size := Nat.le_trans hsz hk3.size
        have hrow3 := row_kept' hrow hk3 (by omega)
        have HLN3 : Hid (rdLen w3 W.heap.size = rest.size) := hr3.len
        clear T1 HN HC2 hrow hrd hbl hk3 hcl
        have HBZ := Hid.mk hbz
        have HXR := Hid.mk hxr
        have hbb : bits.size ≤ 2000 := by omega
        have hrb : rest.size ≤ 2000 := by omega
        clear hbz hxr
        by_cases c1 : last < (wn : Int)
        · by_cases c2 : 0 < bits.size
          · obtain ⟨hm1b, hm2b⟩ := ne_text bits c2
            have hm3b := ne_bne bits c2
            have hwb : IntKind.i64.wrap ((bits.size : Int) - 1) = ((bits.size - 1 : Nat) : Int) := by rw [IntKind.wrap_i64]; omega
            have hib : bits.size - 1 < bits.size := by omega
            by_cases c3 : bits.size ≤ 32
            · have hla := last_at bits c2
              by_cases c4 : bits[bits.size - 1].toNat = 0
              · have hne : ((bits[bits.size - 1].toNat : Int) != 0) = false := by rw [c4]; rfl
                have HRN : Hid (R = none) := by
                  refine HBD.out ?_
                  rintro ⟨_, _, h3⟩
                  rw [hla, bne_iff_ne] at h3
                  exact h3 (UInt8.toNat_inj.1 c4)
                clear HST HBD hla c4
                go_wp2_with fail
                refine (must_no _).mono ?_
                rintro e w4 ⟨rfl, rfl⟩
                go_wp2
                rw [HRN.out]
                exact ⟨rfl, rfl, hbl3⟩
              · have hne : ((bits[bits.size - 1].toNat : Int) != 0) = true := by rw [bne_iff_ne]; omega
                have hcond : last < (wn : Int) ∧ m ≤ 33 ∧ lastOk bits.data.toList = true := by
                  refine ⟨c1, by have := HBZ.out; omega, ?_⟩
                  rw [hla, bne_iff_ne]
                  intro e
                  rw [e] at c4
                  exact c4 rfl
                have HST2 := Hid.mk (HST.out hcond)
                have hw8 : IntKind.i64.wrap (8 * (bits.size : Int)) = ((8 * bits.size : Nat) : Int) := by rw [IntKind.wrap_i64]; omega
                clear HST HBD hla hcond c4
                go_wp2_with fail
                refine (must_yes _).mono ?_
                rintro e w4 ⟨rfl, rfl⟩
                go_wp2
                go_loopw [4, 47] (fun lv iv wr2 => ∃ n : Nat, n ≤ 8 * bits.size ∧ iv = .int .i64 n ∧ wr2.ownsRow (W.heap.size + 1) 3 1 lv (l ++ bitsL wn bits.data.toList n).length (intsV (l ++ bitsL wn bits.data.toList n)) ∧ Below (W.heap.size + 1) w4 wr2 ∧ W.heap.size + 1 ≤ wr2.heap.size) (fun _ iv _ => 8 * bits.size - (intOf iv).toNat)
                case atStart => exact ⟨0, by omega, rfl, by rw [bitsL_zero, List.append_nil]; exact hrow3, Below.refl _ _, hsz3⟩
                case round =>
                  obtain ⟨n, hn, rfl, hrw, hbl4, hsz4⟩ := hrel
                  by_cases hlt : n < 8 * bits.size
                  · have hidx : n / 8 < bits.size := by omega
                    have hbw := bit_walk bits n hidx
                    have hor := or_low wn n (by omega) (by omega)
                    have hlb := bitsL_len wn bits.data.toList n
                    have hLL : (l ++ bitsL wn bits.data.toList n).length ≤ 17000 := by rw [List.length_append]; omega
                    have HNX := Hid.mk (bitsL_succ wn bits.data.toList n)
                    cases hbt : bitAt bits.data.toList n with
                    | true =>
                      rw [hbt] at hbw HNX
                      have HNL : Hid (l ++ bitsL wn bits.data.toList (n + 1) = (l ++ bitsL wn bits.data.toList n) ++ [wn * 256 + n]) := by
                        rw [Hid, HNX.out, List.append_assoc]; rfl
                      clear hbt HNX hlb
                      generalize l ++ bitsL wn bits.data.toList n = L at hrw hLL HNL
                      go_wp2_with (at_builtin; refine wpList_append_own _ rfl _ _ 88 rfl (W.heap.size + 1) 3 i0 (.int .i64 0) 1 8 Tryz.underlying88 hi hz0 hz1 hz2 rfl (by decide) _ _ _ rfl (hrw.alloc _) ⟨wr.heap.size, 0, none⟩ 1 1 [.int .i64 ((wn * 256 + n : Nat) : Int)] rfl rfl (cell_one_new _ _ _) (by simp [Value.oneCell']) (by unfold maxLen; omega) (by omega) (by simp; omega) ?_; intro v1 w5 hown5 hgrow5 _)
                      have hb5 : Below (W.heap.size + 1) w4 w5 := (hbl4.alloc hsz4 _).grown hgrow5 (by simp; omega) (rowBaseB hrw)
                      have hs5 : W.heap.size + 1 ≤ w5.heap.size := Nat.le_trans hsz3 hb5.size
                      go_roundw
                      case rel =>
                        refine ⟨n + 1, by omega, by go_num, ?_, hb5, hs5⟩
                        rw [HNL.out, List.length_append, intsV, List.map_append]; exact hown5
                      case measure => simp [intOf]; omega
                    | false =>
                      rw [hbt] at hbw HNX
                      have HNL : Hid (l ++ bitsL wn bits.data.toList (n + 1) = l ++ bitsL wn bits.data.toList n) := by
                        rw [Hid, HNX.out]; simp
                      clear hbt HNX hlb
                      generalize l ++ bitsL wn bits.data.toList n = L at hrw hLL HNL
                      go_wp2
                      exact ⟨⟨n + 1, by omega, by go_num, by rw [HNL.out]; exact hrw, hbl4, hsz4⟩, by simp [intOf]; omega⟩
                  · obtain rfl : n = 8 * bits.size := by omega
                    have hlb := bitsL_len wn bits.data.toList (8 * bits.size)
                    have hr5 : Rd wr W.heap.size rest := (hbl4.block _ (by omega)).trans hr3
                    have HL5 := Hid.mk hr5.len
                    have hbl5 : Below W.heap.size W wr := hbl3.trans (hbl4.mono (by omega))
                    have hlen5 : (l ++ bitsL wn bits.data.toList (8 * bits.size)).length + 8 * rest.size ≤ 16000 := by
                      have := HBZ.out
                      have := HXR.out
                      rw [List.length_append]; omega
                    have HT5 : Hid (TyRel R (wn : Int) (l ++ bitsL wn bits.data.toList (8 * bits.size)) rest) := by
                      rw [Hid, HBZ.out]; exact HST2.out
                    have HM5 : Hid (rest.size < x.size) := by have := HXR.out; rw [Hid]; omega
                    clear hlb HST2 hr3 hrow3 hne hwb hw8 HBZ HXR
                    generalize l ++ bitsL wn bits.data.toList (8 * bits.size) = L at hrw hlen5 HT5
                    go_wp2
                    refine ⟨⟨L, wn, rest, rfl, by omega, by omega, hrw, hlen5, hr5, hrb, HT5, hbl5, hsz4⟩, ?_⟩
                    rw [HL5.out, HLn.out]; exact HM5.out
            · have HRN : Hid (R = none) := HBD.out (fun h => by have := HBZ.out; omega)
              clear HST HBD
              go_wp2_with fail
              refine (must_no _).mono ?_
              rintro e w4 ⟨rfl, rfl⟩
              go_wp2
              rw [HRN.out]
              exact ⟨rfl, rfl, hbl3⟩
          · obtain rfl := ba_empty bits (by omega)
            have HRN : Hid (R = none) := HBD.out (fun h => by have := h.2.2; cases this)
            clear HST HBD
            go_wp2_with fail
            refine (must_no _).mono ?_
            rintro e w4 ⟨rfl, rfl⟩
            go_wp2
            rw [HRN.out]
            exact ⟨rfl, rfl, hbl3⟩
        · have HRN : Hid (R = none) := HBD.out (fun h => c1 h.1)
          clear HST HBD
          go_wp2_with fail
          refine (must_no _).mono ?_
          rintro e w4 ⟨rfl, rfl⟩
          go_wp2
          rw [HRN.out]
          exact ⟨rfl, rfl, hbl3⟩
    · obtain rfl := ba_empty x (by omega)
      have HRE := Hid.mk (tyRel_end HX.out rfl)
      obtain ⟨q, c, hv⟩ := row_as hrow
      subst hv
      go_wp2
      go_ret
      rw [HRE.out]
      exact ⟨⟨_, rfl, row_down hrow (by omega)⟩, hbl⟩
end Go.Proofs.YtaiakpigljcjbaaGreatDoor

/- A string of TXT, how it is told. -/
namespace Go.Proofs.YtaiakpigljcjbaaGreatDoor
set_option linter.unusedVariables false
open Go.RowKit

/-- how a string tells a byte. -/
def strL (b : UInt8) : List UInt8 := if b.toNat = 34 ∨ b.toNat = 92 then [92, b] else if 32 ≤ b.toNat ∧ b.toNat ≤ 126 then [b] else [92, UInt8.ofNat (48 + b.toNat / 100), UInt8.ofNat (48 + b.toNat / 10 % 10), UInt8.ofNat (48 + b.toNat % 10)]
theorem strL_len (b : UInt8) : (strL b).length ≤ 4 ∧ 1 ≤ (strL b).length := by
  unfold strL; split
  · simp
  · split <;> simp

/-- what an append of bytes owes: the longer row, and nothing else has turned. -/
def AppB (base : Nat) (W : World) (l m : List UInt8) (e : Ending) (w' : World) : Prop :=
  (∃ v', e = .returned v' ∧ w'.ownsRow base 5 1 v' (l ++ m).length (Lib.byteCells (l ++ m))) ∧ Below base W w'
theorem appB_of {base : Nat} {W w1 : World} {v v' : Value} {l m : List UInt8} {tmp : Obj} (hrow : W.ownsRow base 5 1 v l.length (Lib.byteCells l)) (hbase : base ≤ W.heap.size)
    (hown : w1.ownsRow base 5 1 v' (l.length + m.length) (Lib.byteCells l ++ Lib.byteCells m)) (hgrow : (W.alloc tmp).grownBy w1 v.ownBlock) : AppB base W l m (.returned v') w1 := by
  refine ⟨⟨v', rfl, ?_⟩, ((Below.refl base W).alloc hbase _).grown hgrow (by simp; omega) (own_base hrow)⟩
  rw [List.length_append, byteCells_snoc]; exact hown

set_option maxRecDepth 100000 in
set_option maxHeartbeats 1000000 in
theorem strTold_in (base : Nat) (W : World) (v : Value) (l : List UInt8) (b : UInt8) (hl : l.length ≤ 4000000) (hrow : W.ownsRow base 5 1 v l.length (Lib.byteCells l)) (hbase : base ≤ W.heap.size) :
    Calls Tryz.prog 234 #[v, .int .u8 (b.toNat : Int)] W fun e w' => AppB base W l (strL b) e w' := by
  obtain ⟨i0, hi, hz0, hz1, hz2⟩ := info_parts info5
  have hb8 := b.toNat_lt
  by_cases h1 : b.toNat = 34 ∨ b.toNat = 92
  · have ht : strL b = [92, b] := if_pos h1
    have hcs : Lib.byteCells [92, b] = [.int .u8 92, .int .u8 (b.toNat : Int)] := rfl
    have hfin : ∀ v' w1, w1.ownsRow base 5 1 v' (l.length + 2) (Lib.byteCells l ++ [.int .u8 92, .int .u8 (b.toNat : Int)]) → (W.alloc (.cells #[.int .u8 92, .int .u8 (b.toNat : Int)] 5)).grownBy w1 v.ownBlock → AppB base W l (strL b) (.returned v') w1 := by
      intro v' w1 h2 h3
      rw [ht]
      exact appB_of (m := [92, b]) hrow hbase (by rw [hcs]; exact h2) h3
    have HF := Hid.mk hfin
    have hrow' := row_alloc hrow (.cells #[.int .u8 92, .int .u8 (b.toNat : Int)] 5)
    have hnew : ∀ j u, ([.int .u8 92, .int .u8 (b.toNat : Int)] : List Value)[j]? = some u → (W.alloc (.cells #[.int .u8 92, .int .u8 (b.toNat : Int)] 5)).cell? ((⟨W.heap.size, 0, none⟩ : Addr).add j) = some u := fun j u h => cells_new1 W _ 5 j u h
    have HN := Hid.mk hnew
    clear hfin ht hcs hnew
    by_cases h34 : b.toNat = 34
    · have hb1 : ((b.toNat : Int) == 34) = true := by rw [h34]; rfl
      clear h1 h34
      go_enter Tryz.func234, Tryz.ntmps234
      go_wp2_with (at_builtin; refine wpList_append_own _ rfl _ _ 50 rfl base 5 i0 (.int .u8 0) 1 1 Tryz.underlying50 hi hz0 hz1 hz2 rfl (by decide) _ _ _ rfl hrow' ⟨W.heap.size, 0, none⟩ 2 2 _ rfl rfl HN.out (by simp [Value.oneCell']) (by unfold maxLen; omega) (by omega) (by simp; omega) ?_; intro v1 w1 hown1 hgrow1 _)
      go_ret
      exact HF.out _ _ hown1 hgrow1
    · have hb0 : ((b.toNat : Int) == 34) = false := by rw [beq_eq_false_iff_ne]; omega
      have hb1 : ((b.toNat : Int) == 92) = true := by rw [beq_iff_eq]; omega
      clear h1 h34
      go_enter Tryz.func234, Tryz.ntmps234
      go_wp2_with (at_builtin; refine wpList_append_own _ rfl _ _ 50 rfl base 5 i0 (.int .u8 0) 1 1 Tryz.underlying50 hi hz0 hz1 hz2 rfl (by decide) _ _ _ rfl hrow' ⟨W.heap.size, 0, none⟩ 2 2 _ rfl rfl HN.out (by simp [Value.oneCell']) (by unfold maxLen; omega) (by omega) (by simp; omega) ?_; intro v1 w1 hown1 hgrow1 _)
      go_ret
      exact HF.out _ _ hown1 hgrow1
  · have hb0 : ((b.toNat : Int) == 34) = false := by rw [beq_eq_false_iff_ne]; omega
    have hb1 : ((b.toNat : Int) == 92) = false := by rw [beq_eq_false_iff_ne]; omega
    by_cases h2 : 32 ≤ b.toNat ∧ b.toNat ≤ 126
    · have ht : strL b = [b] := by unfold strL; rw [if_neg h1, if_pos h2]
      have hp1 : (32 : Int) ≤ (b.toNat : Int) := by omega
      have hp2 : (b.toNat : Int) ≤ 126 := by omega
      have hcs : Lib.byteCells [b] = [.int .u8 (b.toNat : Int)] := rfl
      have hfin : ∀ v' w1, w1.ownsRow base 5 1 v' (l.length + 1) (Lib.byteCells l ++ [.int .u8 (b.toNat : Int)]) → (W.alloc (.cells #[.int .u8 (b.toNat : Int)] 5)).grownBy w1 v.ownBlock → AppB base W l (strL b) (.returned v') w1 := by
        intro v' w1 h2 h3
        rw [ht]
        exact appB_of (m := [b]) hrow hbase (by rw [hcs]; exact h2) h3
      have HF := Hid.mk hfin
      have hrow' := row_alloc hrow (.cells #[.int .u8 (b.toNat : Int)] 5)
      clear hfin ht hcs h1
      go_enter Tryz.func234, Tryz.ntmps234
      go_wp2_with ((at_builtin; refine wpList_append_own _ rfl _ _ 50 rfl base 5 i0 (.int .u8 0) 1 1 Tryz.underlying50 hi hz0 hz1 hz2 rfl (by decide) _ _ _ rfl hrow' ⟨W.heap.size, 0, none⟩ 1 1 _ rfl rfl (cell_one_new _ _ _) (by simp [Value.oneCell']) (by unfold maxLen; omega) (by omega) (by simp; omega) ?_; intro v1 w1 hown1 hgrow1 _))
      go_ret
      exact HF.out _ _ hown1 hgrow1
    · have ht : strL b = [92, UInt8.ofNat (48 + b.toNat / 100), UInt8.ofNat (48 + b.toNat / 10 % 10), UInt8.ofNat (48 + b.toNat % 10)] := by unfold strL; rw [if_neg h1, if_neg h2]
      have hcs : Lib.byteCells (strL b) = [.int .u8 92, .int .u8 (48 + (b.toNat : Int) / 100), .int .u8 (48 + (b.toNat : Int) / 10 % 10), .int .u8 (48 + (b.toNat : Int) % 10)] := by
        rw [ht]
        have e1 : (UInt8.ofNat (48 + b.toNat / 100)).toNat = 48 + b.toNat / 100 := by simp; omega
        have e2 : (UInt8.ofNat (48 + b.toNat / 10 % 10)).toNat = 48 + b.toNat / 10 % 10 := by simp; omega
        have e3 : (UInt8.ofNat (48 + b.toNat % 10)).toNat = 48 + b.toNat % 10 := by simp; omega
        have c1 : (((UInt8.ofNat (48 + b.toNat / 100)).toNat : Nat) : Int) = 48 + (b.toNat : Int) / 100 := by rw [e1]; omega
        have c2 : (((UInt8.ofNat (48 + b.toNat / 10 % 10)).toNat : Nat) : Int) = 48 + (b.toNat : Int) / 10 % 10 := by rw [e2]; omega
        have c3 : (((UInt8.ofNat (48 + b.toNat % 10)).toNat : Nat) : Int) = 48 + (b.toNat : Int) % 10 := by rw [e3]; omega
        show [Value.int .u8 ((92 : UInt8).toNat : Int), Value.int .u8 ((UInt8.ofNat (48 + b.toNat / 100)).toNat : Int), Value.int .u8 ((UInt8.ofNat (48 + b.toNat / 10 % 10)).toNat : Int), Value.int .u8 ((UInt8.ofNat (48 + b.toNat % 10)).toNat : Int)] = _
        rw [c1, c2, c3]; rfl
      have hln : (strL b).length = 4 := by rw [ht]; rfl
      generalize hx1 : 48 + (b.toNat : Int) / 100 = x1 at hcs
      generalize hx2 : 48 + (b.toNat : Int) / 10 % 10 = x2 at hcs
      generalize hx3 : 48 + (b.toNat : Int) % 10 = x3 at hcs
      have hfin : ∀ v' w1, w1.ownsRow base 5 1 v' (l.length + 4) (Lib.byteCells l ++ [.int .u8 92, .int .u8 x1, .int .u8 x2, .int .u8 x3]) → (W.alloc (.cells #[.int .u8 92, .int .u8 x1, .int .u8 x2, .int .u8 x3] 5)).grownBy w1 v.ownBlock → AppB base W l (strL b) (.returned v') w1 := by
        intro v' w1 h2 h3
        exact appB_of (m := strL b) hrow hbase (by rw [hcs, hln]; exact h2) h3
      have HF := Hid.mk hfin
      have hrow' := row_alloc hrow (.cells #[.int .u8 92, .int .u8 x1, .int .u8 x2, .int .u8 x3] 5)
      have HN := Hid.mk (fun j u h => cells_new1 W #[.int .u8 92, .int .u8 x1, .int .u8 x2, .int .u8 x3] 5 j u h)
      have hnp : b.toNat < 32 ∨ (32 ≤ b.toNat ∧ 126 < b.toNat) := by omega
      clear hfin ht hcs hln h1 h2
      rcases hnp with hq | ⟨hq1, hq2⟩
      · have hp1 : ¬ (32 : Int) ≤ (b.toNat : Int) := by omega
        clear hq
        go_enter Tryz.func234, Tryz.ntmps234
        go_wp2_with (at_builtin; refine wpList_append_own _ rfl _ _ 50 rfl base 5 i0 (.int .u8 0) 1 1 Tryz.underlying50 hi hz0 hz1 hz2 rfl (by decide) _ _ _ rfl hrow' ⟨W.heap.size, 0, none⟩ 4 4 _ rfl rfl HN.out (by simp [Value.oneCell']) (by unfold maxLen; omega) (by omega) (by simp; omega) ?_; intro v1 w1 hown1 hgrow1 _)
        go_ret
        exact HF.out _ _ hown1 hgrow1
      · have hp1 : (32 : Int) ≤ (b.toNat : Int) := by omega
        have hp2 : ¬ (b.toNat : Int) ≤ 126 := by omega
        clear hq1 hq2
        go_enter Tryz.func234, Tryz.ntmps234
        go_wp2_with (at_builtin; refine wpList_append_own _ rfl _ _ 50 rfl base 5 i0 (.int .u8 0) 1 1 Tryz.underlying50 hi hz0 hz1 hz2 rfl (by decide) _ _ _ rfl hrow' ⟨W.heap.size, 0, none⟩ 4 4 _ rfl rfl HN.out (by simp [Value.oneCell']) (by unfold maxLen; omega) (by omega) (by simp; omega) ?_; intro v1 w1 hown1 hgrow1 _)
        go_ret
        exact HF.out _ _ hown1 hgrow1
end Go.Proofs.YtaiakpigljcjbaaGreatDoor

/- Strings of TXT, how they are told. -/
namespace Go.Proofs.YtaiakpigljcjbaaGreatDoor
set_option linter.unusedVariables false
open Go.RowKit

def strLs (l : List UInt8) : List UInt8 := l.flatMap strL
theorem strLs_snoc (l : List UInt8) (b : UInt8) : strLs (l ++ [b]) = strLs l ++ strL b := by simp [strLs]
theorem strLs_len (l : List UInt8) : (strLs l).length ≤ 4 * l.length := by
  induction l with
  | nil => simp [strLs]
  | cons b l ih =>
    have := (strL_len b).1
    simp only [strLs, List.flatMap_cons, List.length_append, List.length_cons] at *
    omega
/-- a string between its signs. -/
def strT (l : List UInt8) : List UInt8 := 34 :: strLs l ++ [34]

theorem row_one (W : World) (v : Value) : (W.alloc (.cells #[v] 5)).ownsRow W.heap.size 5 1 (.slice (some ⟨W.heap.size, 0, none⟩) 1 1) 1 [v] :=
  ⟨rfl, .inr ⟨W.heap.size, 1, #[v], rfl, Nat.le_refl _, heap_new _ _, Nat.le_refl _, by unfold maxLen; omega, rfl, rfl⟩⟩

theorem row_back {w : World} {base : Nat} {v : Value} {n : Nat} {l : List UInt8} {xs : List Value} (h : w.ownsRow base 5 1 v n xs) (hn : n = l.length) (hx : xs = Lib.byteCells l) : (convert 50 9 v).run Tryz.prog w = .ok (.string ⟨l.toArray⟩) w := by
  subst hn
  subst hx
  rcases h.2 with ⟨rfl, h0⟩ | ⟨g', cap', cur, rfl, _, hg, _, _, _, ht⟩
  · obtain rfl : l = [] := List.length_eq_zero_iff.1 h0
    kernel_rfl
  · exact run_convert_bytes_back (P := Tryz.prog) w 50 9 5 ⟨g', 0, none⟩ cap' l Tryz.underlying50 Tryz.underlying5 Tryz.underlying9 (fun j hj => Lib.cells_of_row (w := w) hg l.length j _ (by rw [Nat.mul_one] at ht; rw [ht]; simp [Lib.byteCells, hj]))

set_option maxRecDepth 100000 in
set_option maxHeartbeats 1000000 in
theorem tellString_in (s : ByteArray) (hs : s.size ≤ 255) (w : World) :
    Calls Tryz.prog 200 #[.string s] w fun e w' => e = .returned (.string ⟨(strT s.data.toList).toArray⟩) ∧ Below w.heap.size w w' := by
  obtain ⟨i0, hi, hz0, hz1, hz2⟩ := info_parts info5
  go_enter Tryz.func200, Tryz.ntmps200
  go_wp2
  go_loopw [3, 8] (fun v i wr => ∃ k : Nat, k ≤ s.size ∧ i = .int .i64 k ∧ wr.ownsRow w.heap.size 5 1 v (34 :: strLs (s.data.toList.take k)).length (Lib.byteCells (34 :: strLs (s.data.toList.take k))) ∧ w.heap.size ≤ wr.heap.size ∧ Below w.heap.size w wr) (fun _ i _ => s.size - (intOf i).toNat)
  case atStart => exact ⟨0, Nat.zero_le _, rfl, row_one w _, by simp, (Below.refl _ _).alloc (Nat.le_refl _) _⟩
  case round =>
    obtain ⟨k, hk, rfl, hrow, hsz, hbl⟩ := hrel
    have hL := strLs_len (s.data.toList.take k)
    rw [List.length_take, size_list] at hL
    by_cases hlt : k < s.size
    · have hnx : 34 :: strLs (s.data.toList.take (k + 1)) = (34 :: strLs (s.data.toList.take k)) ++ strL s[k] := by
        rw [List.take_succ_eq_append_getElem (by rw [size_list]; exact hlt), strLs_snoc]; rfl
      have HNX := Hid.mk hnx
      have hTl : (34 :: strLs (s.data.toList.take k)).length ≤ 2000 := by simp; omega
      clear hnx hL
      generalize (34 :: strLs (s.data.toList.take k)) = T at hrow HNX hTl
      obtain ⟨q, cap, rfl⟩ := row_slice' hrow
      have HA := Hid.mk (strTold_in w.heap.size wr _ T s[k] (by omega) hrow hsz)
      go_wp2_with fail
      refine HA.out.mono ?_
      rintro e w1 ⟨⟨v1, rfl, hown1⟩, hb1⟩
      have hrelN : ∃ j : Nat, j ≤ s.size ∧ Value.int .i64 ((k : Int) + 1) = .int .i64 j ∧ w1.ownsRow w.heap.size 5 1 v1 (34 :: strLs (s.data.toList.take j)).length (Lib.byteCells (34 :: strLs (s.data.toList.take j))) ∧ w.heap.size ≤ w1.heap.size ∧ Below w.heap.size w w1 :=
        ⟨k + 1, by omega, by go_num, by rw [HNX.out]; exact hown1, Nat.le_trans hsz hb1.size, hbl.trans hb1⟩
      go_wp2
      exact ⟨hrelN, by simp [intOf]; omega⟩
    · have hall : s.data.toList.take k = s.data.toList := List.take_of_length_le (by rw [size_list]; omega)
      rw [hall] at hrow hL
      have hTl : (34 :: strLs s.data.toList).length ≤ 2000 := by simp; omega
      have HT : Hid (strT s.data.toList = (34 :: strLs s.data.toList) ++ [34]) := rfl
      clear hall hL
      generalize (34 :: strLs s.data.toList) = T at hrow hTl HT
      obtain ⟨q, cap, rfl⟩ := row_slice' hrow
      go_wp2_with (at_builtin; refine wpList_append_own _ rfl _ _ 50 rfl w.heap.size 5 i0 (.int .u8 0) 1 1 Tryz.underlying50 hi hz0 hz1 hz2 rfl (by decide) _ _ _ rfl (hrow.alloc _) ⟨wr.heap.size, 0, none⟩ 1 1 [.int .u8 34] rfl rfl (cell_one_new _ _ _) (by simp [Value.oneCell']) (by unfold maxLen; omega) (by omega) (by simp; omega) ?_; intro v1 w1 hown1 hgrow1 _; have hcv := row_back (l := T ++ [34]) hown1 (by simp) (by rw [byteCells_snoc]; rfl))
      have hb1 : Below w.heap.size wr w1 := ((Below.refl _ _).alloc hsz _).grown hgrow1 (by simp; omega) (own_base hrow)
      go_ret
      exact ⟨by rw [HT.out]; rfl, hbl.trans hb1⟩
end Go.Proofs.YtaiakpigljcjbaaGreatDoor

/- TXT: how it is told, whole. -/
namespace Go.Proofs.YtaiakpigljcjbaaGreatDoor
set_option linter.unusedVariables false
open Go.RowKit

/-- the strings of a piece. -/
def spl : Nat → ByteArray → List ByteArray
  | 0, _ => []
  | n + 1, s => if h : 0 < s.size then s.extract 1 (1 + s[0].toNat) :: spl n (s.extract (1 + s[0].toNat) s.size) else []
theorem spl_end (n : Nat) (s : ByteArray) (h : s.size = 0) : spl (n + 1) s = [] := by rw [spl, dif_neg (by omega)]
theorem spl_go (n : Nat) (s : ByteArray) (h : 0 < s.size) : spl (n + 1) s = s.extract 1 (1 + s[0].toNat) :: spl n (s.extract (1 + s[0].toNat) s.size) := by rw [spl, dif_pos h]

def strB (s : ByteArray) : ByteArray := ⟨(strT s.data.toList).toArray⟩
/-- how a piece of TXT is told. -/
def txtT (s : ByteArray) : List UInt8 := Lib.join (((spl (s.size + 1) s).map strB).map (·.data.toList)) [32]

theorem strB_size (s : ByteArray) (h : s.size ≤ 255) : (strB s).size ≤ 1100 := by
  have := strLs_len s.data.toList
  rw [size_list] at this
  rw [strB, ba_size, strT]
  simp
  omega

set_option maxRecDepth 100000 in
set_option maxHeartbeats 1000000 in
theorem tellStrings_in (s : ByteArray) (hs : s.size ≤ 2000) (hok : moreOk (s.size + 1) s = true) (W : World) :
    Calls Tryz.prog 159 #[.string s] W fun e w' => e = .returned (.string ⟨(txtT s).toArray⟩) ∧ Below W.heap.size W w' := by
  obtain ⟨i0, hi, hz0, hz1, hz2⟩ := info_parts info9
  obtain ⟨A, hA⟩ : ∃ A, (spl (s.size + 1) s).map strB = A := ⟨_, rfl⟩
  have hT : txtT s = Lib.join (A.map (·.data.toList)) [32] := by rw [txtT, hA]
  rw [hT]
  have HA := Hid.mk hA
  have HOK := Hid.mk hok
  clear hok hA hT
  go_enter Tryz.func159, Tryz.ntmps159
  go_wp2
  go_loopw [4] (fun v wr => ∃ (ws : List ByteArray) (x : ByteArray) (n : Nat), Rd wr W.heap.size x ∧ x.size < n ∧ ws.length + x.size ≤ 2000 ∧ wr.ownsRow (W.heap.size + 1) 9 1 v ws.length (baV ws) ∧ Hid (∀ y ∈ ws, y.size ≤ 1100) ∧ Hid (moreOk n x = true) ∧ Hid (ws ++ (spl n x).map strB = A) ∧ W.heap.size + 1 ≤ wr.heap.size ∧ Below W.heap.size W wr) (fun _ wr => rdLen wr W.heap.size)
  case atStart => exact ⟨[], s, s.size + 1, heap_new _ _, by omega, by simpa using hs, World.ownsRow_nil .., Hid.mk (fun y hy => absurd hy (by simp)), HOK, HA, by simp, (Below.refl _ _).alloc (Nat.le_refl _) _⟩
  case round =>
    obtain ⟨ws, x, n, hrd, hxn, hwx, hrow, HY, HM, HS, hsz, hbl⟩ := hrel
    obtain ⟨n, rfl⟩ : ∃ m, n = m + 1 := ⟨n - 1, by omega⟩
    have HLn := Hid.mk hrd.len
    have hcl := hrd.cell
    obtain ⟨q, cap, rfl⟩ := row_as hrow
    by_cases hx0 : 0 < x.size
    · obtain ⟨hn1, hn2⟩ := ne_text x hx0
      have hxf : 1 + x[0].toNat ≤ x.size := by
        by_cases hxf : 1 + x[0].toNat ≤ x.size
        · exact hxf
        · have := HM.out
          rw [more_no n x hx0 (by omega)] at this
          cases this
      have hb8 := x[0].toNat_lt
      have HC := Hid.mk (counted_yes wr W.heap.size x (by unfold maxLen; omega) hrd hx0 hxf)
      have hez : (x.extract (1 + x[0].toNat) x.size).size < x.size := by rw [ByteArray.size_extract]; omega
      have hyz : (x.extract 1 (1 + x[0].toNat)).size ≤ 255 := by rw [ByteArray.size_extract]; omega
      have hr1 := hrd.set (x.extract (1 + x[0].toNat) x.size)
      have hk1 := Kept.set W.heap.size 0 wr (.string (x.extract (1 + x[0].toNat) x.size))
      have HM1 : Hid (moreOk n (x.extract (1 + x[0].toNat) x.size) = true) := by
        rw [Hid, ← more_go n x hx0 hxf]; exact HM.out
      have HS1 : Hid (ws ++ (x.extract 1 (1 + x[0].toNat) :: spl n (x.extract (1 + x[0].toNat) x.size)).map strB = A) := by
        rw [Hid, ← spl_go n x hx0]; exact HS.out
      clear hxf HM HS
      generalize x.extract (1 + x[0].toNat) x.size = x1 at HC hez hr1 hk1 HM1 HS1
      generalize x.extract 1 (1 + x[0].toNat) = y at HC hyz HS1
      have HT := Hid.mk (tellString_in y hyz)
      have hst : strB y = ⟨(strT y.data.toList).toArray⟩ := rfl
      have HYZ := Hid.mk (strB_size y hyz)
      have HS2 : Hid (ws ++ (strB y :: (spl n x1).map strB) = A) := HS1
      rw [← hst] at HT
      clear HS1
      generalize strB y = sy at HT HYZ hst HS2
      clear hst
      go_wp2_with fail
      refine HC.out.mono ?_
      rintro e w1 ⟨rfl, rfl⟩
      go_wp2_with fail
      refine (HT.out _).mono ?_
      rintro e w2 ⟨rfl, hb2⟩
      have hrd2 := hr1.below hb2
      have hrow2 := row_bel (row_kept' hrow hk1 (by omega)) hb2
      have hsz2 : W.heap.size + 1 ≤ w2.heap.size := Nat.le_trans (Nat.le_trans hsz hk1.size) hb2.size
      have hbl1 : Below W.heap.size W _ := hbl.trans (hk1.below (Nat.le_refl _) (by omega))
      have hbl2 : Below W.heap.size W w2 := hbl1.trans (hb2.mono (Nat.le_trans (by omega) hk1.size))
      clear hrow
      go_wp2_with (at_builtin; refine wpList_append_own _ rfl _ _ 35 rfl (W.heap.size + 1) 9 i0 (.string ⟨#[]⟩) 1 16 Tryz.underlying35 hi hz0 hz1 hz2 rfl (by decide) _ _ _ rfl (hrow2.alloc _) ⟨w2.heap.size, 0, none⟩ 1 1 [.string sy] rfl rfl (cell_one_new _ _ _) (by simp [Value.oneCell']) (by unfold maxLen; omega) (by omega) (by simp; omega) ?_; intro v1 w3 hown3 hgrow3 _)
      have hb3 : Below (W.heap.size + 1) w2 w3 := ((Below.refl _ w2).alloc hsz2 _).grown hgrow3 (by simp; omega) (rowBaseB hrow2)
      have hrd3 := hrd2.belowTo hb3 (by omega)
      have HLT : Hid (rdLen w3 W.heap.size < rdLen wr W.heap.size) := by
        rw [Hid, HLn.out, hrd3.len]; exact hez
      have hrelN : ∃ (ws : List ByteArray) (x : ByteArray) (n : Nat), Rd w3 W.heap.size x ∧ x.size < n ∧ ws.length + x.size ≤ 2000 ∧ w3.ownsRow (W.heap.size + 1) 9 1 v1 ws.length (baV ws) ∧ Hid (∀ y ∈ ws, y.size ≤ 1100) ∧ Hid (moreOk n x = true) ∧ Hid (ws ++ (spl n x).map strB = A) ∧ W.heap.size + 1 ≤ w3.heap.size ∧ Below W.heap.size W w3 := by
        refine ⟨ws ++ [sy], x1, n, hrd3, by omega, by simp; omega, ?_, Hid.mk (fun z hz => ?_), HM1, ?_, Nat.le_trans hsz2 hb3.size, hbl2.trans (hb3.mono (by omega))⟩
        · rw [List.length_append, baV, List.map_append]; exact hown3
        · rcases List.mem_append.1 hz with h | h
          · exact HY.out z h
          · rw [List.mem_singleton.1 h]; exact HYZ.out
        · rw [Hid, List.append_assoc]; exact HS2.out
      go_wp2
      go_roundw
      case rel => exact hrelN
      case measure => exact HLT.out
    · have hxe := ba_empty x (by omega)
      subst hxe
      have hwA : ws = A := by
        have := HS.out
        rw [spl_end n _ rfl] at this
        simpa using this
      subst hwA
      have hjl := join_len [32] ws 1100 HY.out
      have hwl : ws.length * (1100 + [(32 : UInt8)].length) ≤ 140737488355328 := by
        refine Nat.le_trans (Nat.mul_le_mul_right _ (show ws.length ≤ 2000 by omega)) (by decide)
      have HJ := Hid.mk (join_row ⟨#[32]⟩ hrow (by omega) (Nat.le_trans hjl hwl))
      clear hjl hwl hrow
      go_wp2_with fail
      refine HJ.out.mono ?_
      rintro e w3 ⟨rfl, hb3⟩
      go_wp2
      go_ret
      exact ⟨rfl, hbl.trans (hb3.mono (by omega))⟩
end Go.Proofs.YtaiakpigljcjbaaGreatDoor

/- The chapter's two readings of A. -/
namespace Go.Proofs.YtaiakpigljcjbaaGreatDoor
set_option linter.unusedVariables false
open Go.RowKit

def dmOf (t : ByteArray) : Nat → ByteArray → Prop := fun k s => k = 0 → s = t
def rfOf (t x : ByteArray) : Nat → ByteArray → Option (ByteArray × ByteArray) := fun _ _ => some (x, restB t)

theorem jn_one (x : ByteArray) : jn [x] = x := by
  apply ba_ext
  show Lib.join [x.data.toList] [] = x.data.toList
  exact Lib.join_one _ _

end Go.Proofs.YtaiakpigljcjbaaGreatDoor

/- The form of TXT: split, told, read. -/
namespace Go.Proofs.YtaiakpigljcjbaaGreatDoor
set_option linter.unusedVariables false
open Go.RowKit

abbrev txtP : Array Value := #[fnV 158 #[], fnV 159 #[], fnV 160 #[], .bool false]
theorem stringsPart_in (w : World) : Calls Tryz.prog 132 #[] w fun e w' => e = .returned (.agg txtP) ∧ Below w.heap.size w w' := by
  have hmf := mkf
  go_enter Tryz.func132, Tryz.ntmps132
  go_wp2
  exact bodyPost_ret (v := .agg txtP) (by simp [results, Tryz.results132, go_sem]) rfl ⟨rfl, by first | exact (Below.refl _ _).alloc (Nat.le_refl _) _ | exact Below.refl _ _⟩

set_option maxRecDepth 100000 in
theorem partsOf_T (w : World) : Calls Tryz.prog 113 #[.int .i64 16] w fun e w' => ∃ g, w.heap.size ≤ g ∧
    e = .returned (.slice (some ⟨g, 0, none⟩) 1 1) ∧ w'.heap[g]? = some (.cells txtP 149 (0, 0)) ∧ Below w.heap.size w w' := by
  have hmf := mkf
  go_enter Tryz.func113, Tryz.ntmps113
  go_wp2_with fail
  refine (numberPart_in _ _).mono ?_
  rintro e w1 ⟨rfl, ho1, hb1⟩
  go_wp2_with fail
  refine (numberPart_in _ _).mono ?_
  rintro e w2 ⟨rfl, ho2, hb2⟩
  go_wp2_with fail
  refine (numberPart_in _ _).mono ?_
  rintro e w3 ⟨rfl, ho3, hb3⟩
  clear ho1 ho2 ho3
  go_wp2_with fail
  refine (stringsPart_in _).mono ?_
  rintro e w4 ⟨rfl, hb4⟩
  have k3 : Below w.heap.size w w3 := bth (bth hb1 hb2 hb1.size) hb3 (Nat.le_trans hb1.size hb2.size)
  have s3 := k3.size
  have k6 : Below w.heap.size w w4 := (((k3.alloc s3 _).alloc (by simp; omega) _).alloc (by simp; omega) _).trans (hb4.mono (by simp; omega))
  clear hb1 hb2 hb3 hb4
  go_wp2
  go_ret
  exact ⟨w4.heap.size, k6.size, rfl, heap_new _ _, k6.alloc k6.size _⟩

def txtPart : Part := ⟨158, #[], 159, #[], 160, #[], false⟩
def txtForm : Form := { n := 1, pf := txtPf, tf := fun _ x => ⟨(txtT x).toArray⟩, ok := fun _ x => x.size ≤ 2000 ∧ moreOk (x.size + 1) x = true }

theorem form_T (w : World) : Calls Tryz.prog 113 #[.int .i64 16] w fun e w' => FormPost txtForm w e w' := by
  refine (partsOf_T w).mono ?_
  rintro e w1 ⟨g, hg, rfl, hc, hb⟩
  refine ⟨g, fun _ => txtPart, rfl, one_part hc, fun _ _ => enters_by Tryz.func158 (by kernel_rfl) rfl, ?_, hb, fun _ _ => enters_by Tryz.func159 (by kernel_rfl) rfl, ?_⟩
  · intro k _ W' d s' hb' _ hr hs
    exact passStrings_in W' d s' hs hr
  · intro k _ W' x hb' hx
    exact tellStrings_in x hx.1 hx.2 W'

theorem partsT (w : World) : Calls Tryz.prog 113 #[.int .i64 16] w fun e w' => PartsPost 1 txtPf w e w' := by
  refine (partsOf_T w).mono ?_
  rintro e w1 ⟨g, hg, rfl, hc, hb⟩
  refine ⟨g, fun _ => txtPart, rfl, one_part hc, fun _ _ => enters_by Tryz.func158 (by kernel_rfl) rfl, ?_, hb⟩
  intro k _ W' d s' hb' _ hr hs
  exact passStrings_in W' d s' hs hr

theorem fin_T (s : ByteArray) (h0 : 0 < s.size) (h : moreOk (s.size + 1) s = true) : fin txtPf 1 s = some [s] := by
  have e1 : s.extract 0 s.size = s := by simp
  simp [fin, cutP, txtPf, h0, h, e1]
theorem fin_T_no (s : ByteArray) (h : ¬ (0 < s.size ∧ moreOk (s.size + 1) s = true)) : fin txtPf 1 s = none := by
  have : txtPf 0 s = none := if_neg h
  simp only [fin, cutP, this]

theorem split_T (s : ByteArray) (hs : s.size ≤ 2000) (h0 : 0 < s.size) (h : moreOk (s.size + 1) s = true) (W : World) : Calls Tryz.prog 90 #[.int .i64 16, .string s] W fun e w' => SplitPost (some [s]) W e w' := by
  have := split_in W 1 (by omega) 16 (by omega) s hs txtPf (fun w => (partsT w).mono fun e w' h => h)
  rwa [fin_T s h0 h] at this
theorem split_T_no (s : ByteArray) (hs : s.size ≤ 2000) (h : ¬ (0 < s.size ∧ moreOk (s.size + 1) s = true)) (W : World) : Calls Tryz.prog 90 #[.int .i64 16, .string s] W fun e w' => SplitPost none W e w' := by
  have := split_in W 1 (by omega) 16 (by omega) s hs txtPf (fun w => (partsT w).mono fun e w' h => h)
  rwa [fin_T_no s h] at this

end Go.Proofs.YtaiakpigljcjbaaGreatDoor
