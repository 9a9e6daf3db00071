/- Texts of this proof, joined: DTyEnc, DRefTy, DJoin, DKey, DNsec, DRefNsec. -/
import Derived.Test.YtdlcldjlfhmlgaaGreatDoorJ27
import Derived.Test.YtdlcldjlfhmlgaaGreatDoorJ26
import Derived.BigRegion
import Derived.Test.YtdlcldjlfhmlgaaGreatDoorJ9
import Derived.Deep.RegionHeld3
import Derived.Test.YtdlcldjlfhmlgaaGreatDoorJ10
set_option linter.unusedVariables false
set_option linter.unusedSimpArgs false
/- bytesOfTypes: a list of types as bytes. -/
namespace Go.Proofs.YtdlcldjlfhmlgaaGreatDoor
open Go.RowKit
def IntsAt (W : World) (v : Value) (l : List Int) : Prop := ∃ q c, v = .slice q l.length c ∧ ∀ j (h : j < l.length), ∃ g, q = some ⟨g, 0, none⟩ ∧ g < W.heap.size ∧ W.cell? ⟨g, j, none⟩ = some (.int .i64 l[j])
end Go.Proofs.YtdlcldjlfhmlgaaGreatDoor
/- The document's own reader (guidepostref02): types. -/
namespace Go.Proofs.YtdlcldjlfhmlgaaGreatDoor
open Go.RowKit
def rrLen (w : World) (d : Nat) : Nat := match w.cell? ⟨d, 0, none⟩ with
 | some (.string s) => s.size
 | _ => 0
theorem RR.len {W : World} {d : Nat} {s : ByteArray} {b : Bool} (h : RR W d s b) : rrLen W d = s.size := by rw [rrLen, h.c0.1]
theorem Kept.trans_below {d : Nat} {A B C : World} (h : Kept d A B) (k : Below A.heap.size B C) : Kept d A C :=
 ⟨k.os.trans h.os, k.tape.trans h.tape, k.output.trans h.output, Nat.le_trans h.size k.size, fun b hb hd => (k.block b hb).trans (h.same b hb hd)⟩
theorem bit_int (a e : Nat) {c : Bool} (h : (a / 2 ^ e % 2 == 1) = c) : (((a : Int) / 2 ^ e).tmod 2 == 1) = c := by
 have e1 : ((a : Int) / 2 ^ e) = ((a / 2 ^ e : Nat) : Int) := by push_cast; rfl
 have e2 : ((a / 2 ^ e : Nat) : Int).tmod 2 = ((a / 2 ^ e % 2 : Nat) : Int) := rfl
 rw [e1, e2, ← h, Bool.eq_iff_iff, beq_iff_eq, beq_iff_eq]
 omega
theorem one_atR {x : ByteArray} (h0 : 0 < x.size) : numB (tkS 1 x).data.toList = x[0].toNat ∧ tkR 1 x = x.extract 1 x.size := by
 rw [tkS, if_pos (by omega), tkR, if_pos (by omega), first_one x h0]
 simp [numB]
theorem ty_parts {x : ByteArray} (h0 : 0 < x.size) (x1 x2 x3 sB : ByteArray) (n : Nat) (b3 : Bool) (e1 : x1 = tkR 1 x) (en : n = numB (tkS 1 x1).data.toList) (e2 : x2 = tkR 1 x1) (eS : sB = tkS n x2) (e3 : x3 = tkR n x2) (eb : b3 = (decide (x1.size < 1) || decide (x2.size < n))) :
  (b3 = true → cntK (x.extract 1 x.size) = none) ∧ (b3 = false → cntK (x.extract 1 x.size) = some (1 + n) ∧ sB = x.extract 2 (1 + n + 1) ∧ x3 = x.extract (1 + n + 1) x.size ∧ sB.size = n ∧ x3.size + n + 2 = x.size) ∧ n ≤ 255 := by
 have hx1 : x1 = x.extract 1 x.size := by rw [e1]; exact (one_atR h0).2
 have H := stp_salt x1 false
 rw [← en, ← e2, ← e3, ← eS, Bool.false_or, ← eb] at H
 have hn : n ≤ 255 := by
  rw [en]
  have := numB_lt (tkS 1 x1).data.toList
  have hl : (tkS 1 x1).data.toList.length ≤ 1 := by rw [size_list]; exact (tkS_le 1 x1).1
  have h2 : 256 ^ (tkS 1 x1).data.toList.length ≤ 256 ^ 1 := Nat.pow_le_pow_right (by omega) hl
  omega
 rw [← hx1]
 refine ⟨fun hb => ?_, fun hb => ?_, hn⟩
 ·cases hc : cntK x1 with
  | none => rfl
  | some m =>
   have := (H.some m hc rfl).2.2
   rw [hb] at this
   cases this
 ·cases hc : cntK x1 with
  | none =>
   have := H.none hc
   rw [hb] at this
   cases this
  | some m =>
   have hm := cnt_num hc
   rw [← en] at hm
   have hle := cnt_le hc
   have hz : x1.size = x.size - 1 := by rw [hx1, ByteArray.size_extract]; omega
   have h2 : x2 = x.extract 2 x.size := by
    rw [e2, tkR, if_pos (by omega), hz, hx1, ByteArray.extract_extract]
    congr 1 <;> omega
   have hz2 : x2.size = x.size - 2 := by rw [h2, ByteArray.size_extract]; omega
   have hS : sB = x.extract 2 (1 + n + 1) := by
    rw [eS, tkS, if_pos (by omega), h2, ByteArray.extract_extract]
    congr 1 <;> omega
   have h3 : x3 = x.extract (1 + n + 1) x.size := by
    rw [e3, tkR, if_pos (by omega), hz2, h2, ByteArray.extract_extract]
    congr 1 <;> omega
   refine ⟨by rw [hm], hS, h3, ?_, ?_⟩
   ·rw [hS, ByteArray.size_extract]; omega
   ·rw [h3, ByteArray.size_extract]; omega
theorem stp_types_yes {s : ByteArray} {l : List Nat} (h : typesR s = some l) : Stp .types s false s ⟨#[]⟩ false := by
 refine ⟨fun e => ?_, id, fun m e _ => ?_⟩
 ·simp only [passK, h] at e
  cases e
 ·simp only [passK, h] at e
  cases e
  exact ⟨(cut_all s).symm, (end_cut s).symm, rfl⟩
theorem stp_types_bad (s r' : ByteArray) (b : Bool) (h : b = true ∨ typesR s = none) : Stp .types s b s r' true := by
 refine ⟨fun _ => rfl, fun _ => rfl, fun m e hb => ?_⟩
 rcases h with h | h
 ·rw [h] at hb; cases hb
 ·simp only [passK, h] at e
  cases e
def TypesPost (s : ByteArray) (b : Bool) (d : Nat) (W : World) (e : Ending) (w' : World) : Prop := ∃ v r' b' l, e = .returned v ∧ RR w' d r' b' ∧ Kept d W w' ∧ w'.ownsRow W.heap.size 3 1 v l.length (intsV l) ∧ Stp .types s b s r' b' ∧ (b' = false → typesR s = some l)
set_option maxRecDepth 100000 in
set_option maxHeartbeats 4000000 in
theorem rTypes_in (W : World) (d : Nat) (s : ByteArray) (b : Bool) (hs : s.size ≤ 140737488355328) (h : RR W d s b) :
  Calls Tryz.prog 149 #[boxV d] W fun e w' => TypesPost s b d W e w' := by
 obtain ⟨i0, hi, hz0, hz1, hz2⟩ := info_parts info3
 have hdW := h.lt
 cases b with
 | true =>
  obtain ⟨hc0, hf0⟩ := h.c0
  obtain ⟨hc1, hf1⟩ := h.c1
  have HH := Hid.mk h
  clear h
  go_enter Tryz.func149, Tryz.ntmps149
  go_wp2
  go_loopw [3, 4] (fun lv tv wr => lv = .slice none 0 0 ∧ wr = W) (fun _ _ _ => 0)
  case atStart => exact ⟨rfl, rfl⟩
  case round =>
   obtain ⟨rfl, rfl⟩ := hrel
   by_cases h0 : 0 < s.size
   ·obtain ⟨hn1, hn2⟩ := ne_text s h0
    have hn3 := ne_bne s h0
    go_wp2
    go_ret
    exact ⟨_, s, true, [], rfl, HH.out, Kept.refl _ _, World.ownsRow_nil .., stp_types_bad _ _ _ (.inl rfl), fun e => by cases e⟩
   ·obtain rfl := ba_empty s (by omega)
    go_wp2
    go_ret
    exact ⟨_, _, true, [], rfl, HH.out, Kept.refl _ _, World.ownsRow_nil .., stp_types_bad _ _ _ (.inl rfl), fun e => by cases e⟩
 | false =>
  have HF := Hid.mk (tyRel_first s)
  obtain ⟨R, hR⟩ : ∃ R, typesR s = R := ⟨_, rfl⟩
  rw [hR] at HF
  have HRR := Hid.mk hR
  clear hR
  have HH := Hid.mk h
  clear h
  go_enter Tryz.func149, Tryz.ntmps149
  go_wp2
  go_loopw [3, 4] (fun lv tv wr => ∃ (l : List Nat) (last : Int) (x : ByteArray), tv = .int .i64 last ∧ -1 ≤ last ∧ last ≤ 255 ∧ wr.ownsRow W.heap.size 3 1 lv l.length (intsV l) ∧ (l.length : Int) ≤ 256 * (last + 1) ∧ RR wr d x false ∧ x.size ≤ 140737488355328 ∧ Hid (TyRel R last l x) ∧ Kept d W wr) (fun _ _ wr => rrLen wr d)
  case atStart => exact ⟨[], -1, s, rfl, by omega, by omega, World.ownsRow_nil .., by simp, HH.out, hs, HF, Kept.refl _ _⟩
  case round =>
   obtain ⟨l, last, x, rfl, hl1, hl2, hrow, hll, hrd, hx, HX, hkp⟩ := hrel
   have HLn := Hid.mk hrd.len
   obtain ⟨hc0, hf0⟩ := hrd.c0
   obtain ⟨hc1, hf1⟩ := hrd.c1
   have hszW := hkp.size
   by_cases h0 : 0 < x.size
   ·obtain ⟨hn1, hn2⟩ := ne_text x h0
    have hn3 := ne_bne x h0
    obtain ⟨hv1, hr1e⟩ := one_atR h0
    obtain ⟨x1, ex1⟩ : ∃ x1, x1 = tkR 1 x := ⟨_, rfl⟩
    obtain ⟨n, en⟩ : ∃ n, n = numB (tkS 1 x1).data.toList := ⟨_, rfl⟩
    obtain ⟨x2, ex2⟩ : ∃ x2, x2 = tkR 1 x1 := ⟨_, rfl⟩
    obtain ⟨sB, eS⟩ : ∃ sB, sB = tkS n x2 := ⟨_, rfl⟩
    obtain ⟨x3, ex3⟩ : ∃ x3, x3 = tkR n x2 := ⟨_, rfl⟩
    obtain ⟨b3, eb⟩ : ∃ b3, b3 = (decide (x1.size < 1) || decide (x2.size < n)) := ⟨_, rfl⟩
    obtain ⟨P1, P2, P3⟩ := ty_parts h0 x1 x2 x3 sB n b3 ex1 en ex2 eS ex3 eb
    have hx1z : x1.size ≤ 140737488355328 := by rw [ex1]; have := tkR_le 1 x; omega
    have hx2z : x2.size ≤ 140737488355328 := by rw [ex2]; have := tkR_le 1 x1; omega
    have T1 : Hid (Calls Tryz.prog 100 #[boxV d, .int .i64 1] wr fun e w' => e = .returned (.int .i64 ((x[0].toNat : Nat) : Int)) ∧ RR w' d x1 false ∧ Kept d wr w') := by
     have := rNum_in wr d 1 x false hx (by omega) hrd
     rw [hv1, ← ex1, decide_eq_false (by omega : ¬ x.size < 1)] at this
     exact this
    have T2 : Hid (∀ w, RR w d x1 false → Calls Tryz.prog 100 #[boxV d, .int .i64 1] w fun e w' => e = .returned (.int .i64 ((n : Nat) : Int)) ∧ RR w' d x2 (decide (x1.size < 1)) ∧ Kept d w w') := fun w hw => by
     have := rNum_in w d 1 x1 false hx1z (by omega) hw
     rw [← en, ← ex2, Bool.false_or] at this
     exact this
    have T3 : Hid (∀ w, RR w d x2 (decide (x1.size < 1)) → Calls Tryz.prog 136 #[boxV d, .int .i64 n] w fun e w' => e = .returned (.string sB) ∧ RR w' d x3 b3 ∧ Kept d w w') := fun w hw => by
     have := rTake_in w d n x2 _ hx2z (by omega) hw
     rw [← eS, ← ex3, ← eb] at this
     exact this
    have HBad : Hid ((b3 = true ∨ ¬ (last < (x[0].toNat : Int) ∧ n ≤ 32 ∧ lastOk sB.data.toList = true)) → R = none) := by
     intro hb
     cases hb3 : b3 with
     | true => exact tyRel_none HX.out h0 (P1 hb3)
     | false =>
      obtain ⟨k1, k2, k3, k4, k5⟩ := P2 hb3
      refine tyRel_bad HX.out h0 k1 (fun hc => ?_)
      rw [← k2] at hc
      rcases hb with hb | hb
      ·rw [hb3] at hb; cases hb
      ·exact hb ⟨hc.1, by omega, hc.2.2⟩
    have HStep : Hid (b3 = false → last < (x[0].toNat : Int) ∧ n ≤ 32 ∧ lastOk sB.data.toList = true → TyRel R (x[0].toNat : Int) (l ++ bitsL x[0].toNat sB.data.toList (8 * n)) x3) := by
     intro hb3 hc
     obtain ⟨k1, k2, k3, k4, k5⟩ := P2 hb3
     have := tyRel_step HX.out h0 k1 (by rw [← k2]; exact ⟨hc.1, by omega, hc.2.2⟩)
     rw [← k2, ← k3, show 8 * (1 + n - 1) = 8 * n by omega] at this
     exact this
    have HSz : Hid (b3 = false → sB.size = n ∧ x3.size + n + 2 = x.size) := fun hb3 => ⟨(P2 hb3).2.2.2.1, (P2 hb3).2.2.2.2⟩
    have hb0 := x[0].toNat_lt
    clear P1 P2 ex1 en ex2 eS ex3 eb hv1 hr1e HX
    generalize x[0].toNat = wn at T1 HBad HStep hb0
    go_wp2_with fail
    refine T1.out.mono ?_
    rintro e w1 ⟨rfl, hr1, hk1⟩
    go_wp2_with fail
    refine (T2.out _ hr1).mono ?_
    rintro e w2 ⟨rfl, hr2, hk2⟩
    go_wp2_with fail
    refine (T3.out _ hr2).mono ?_
    rintro e w3 ⟨rfl, hr3, hk3'⟩
    have hk3 : Kept d W w3 := hkp.trans (hk1.trans (hk2.trans hk3'))
    have hrow3 := row_kept' hrow (hk1.trans (hk2.trans hk3')) hdW
    obtain ⟨g0, f0⟩ := hr3.c0
    obtain ⟨g1, f1⟩ := hr3.c1
    have HR3 := Hid.mk hr3
    have hsz3 : W.heap.size ≤ w3.heap.size := hk3.size
    clear T1 T2 T3 hrow hrd hr1 hr2 hk1 hk2 hk3' hkp hc0 hf0 hc1 hf1 hr3
    by_cases c1 : last < (wn : Int)
    ·by_cases c2 : 1 ≤ n
     ·by_cases c3 : n ≤ 32
      ·cases b3 with
       | true =>
        have HRN : Hid (R = none) := HBad.out (.inl rfl)
        clear HBad HStep HSz
        go_wp2
        go_ret
        exact ⟨_, x3, true, [], rfl, HR3.out.set1 _, hk3.trans (Kept.set _ _ _ _), World.ownsRow_nil .., stp_types_bad _ _ _ (.inr (HRR.out.trans HRN.out)), fun e => by cases e⟩
       | false =>
        obtain ⟨hsB, hx3⟩ := HSz.out rfl
        have hla := last_at sB (by omega)
        have hidx : n - 1 < sB.size := by omega
        have hwn : IntKind.i64.wrap ((n : Int) - 1) = ((n - 1 : Nat) : Int) := by rw [IntKind.wrap_i64]; omega
        have hla2 : lastOk sB.data.toList = (sB[n - 1] != 0) := by subst hsB; exact hla
        clear hla
        by_cases c4 : sB[n - 1].toNat = 0
        ·have hne : ((sB[n - 1].toNat : Int) == 0) = true := by rw [c4]; rfl
         have HRN : Hid (R = none) := HBad.out (.inr (fun hc => by
          have := hc.2.2
          rw [hla2, bne_iff_ne] at this
          exact this (UInt8.toNat_inj.1 c4)))
         clear HBad HStep HSz hla2 c4
         go_wp2
         go_ret
         exact ⟨_, x3, true, [], rfl, HR3.out.set1 _, hk3.trans (Kept.set _ _ _ _), World.ownsRow_nil .., stp_types_bad _ _ _ (.inr (HRR.out.trans HRN.out)), fun e => by cases e⟩
        ·have hne : ((sB[n - 1].toNat : Int) == 0) = false := by rw [beq_eq_false_iff_ne]; omega
         have HT := Hid.mk (HStep.out rfl ⟨c1, c3, by
          rw [hla2, bne_iff_ne]
          intro e
          rw [e] at c4
          exact c4 rfl⟩)
         have HLN3 := Hid.mk HR3.out.len
         clear HBad HStep HSz hla2 c4
         have hw8 : IntKind.i64.wrap (8 * (n : Int)) = ((8 * n : Nat) : Int) := by rw [IntKind.wrap_i64]; omega
         go_wp2
         go_loopw [3, 8] (fun lv iv wr2 => ∃ k : Nat, k ≤ 8 * n ∧ iv = .int .i64 k ∧ wr2.ownsRow W.heap.size 3 1 lv (l ++ bitsL wn sB.data.toList k).length (intsV (l ++ bitsL wn sB.data.toList k)) ∧ Below W.heap.size w3 wr2) (fun _ iv _ => 8 * n - (intOf iv).toNat)
         case atStart => exact ⟨0, by omega, rfl, by rw [bitsL_zero, List.append_nil]; exact hrow3, Below.refl _ _⟩
         case round =>
          obtain ⟨k, hk, rfl, hrw, hbl4⟩ := hrel
          have hsz4 : W.heap.size ≤ wr.heap.size := Nat.le_trans hsz3 hbl4.size
          by_cases hlt : k < 8 * n
          ·have hidx8 : k / 8 < sB.size := by omega
           have hbw := bit_at sB k hidx8
           have hlb := bitsL_len wn sB.data.toList k
           have hLL : (l ++ bitsL wn sB.data.toList k).length ≤ 70000 := by rw [List.length_append]; omega
           have HNX := Hid.mk (bitsL_succ wn sB.data.toList k)
           have hub := sB[k / 8].toNat_lt
           have hkk : k < 256 := by omega
           cases hbt : bitAt sB.data.toList k with
           | true =>
            rw [hbt] at hbw HNX
            have HNL : Hid (l ++ bitsL wn sB.data.toList (k + 1) = (l ++ bitsL wn sB.data.toList k) ++ [wn * 256 + k]) := by
             rw [Hid, HNX.out, List.append_assoc]; rfl
            have hbit : (((sB[k / 8].toNat : Int) / 2 ^ (7 - k % 8)).tmod 2 == 1) = true := bit_int _ _ hbw.symm
            clear hbt HNX hlb hbw
            generalize l ++ bitsL wn sB.data.toList k = L at hrw hLL HNL
            go_wp2_with (at_builtin; refine wpList_append_own _ rfl _ _ 159 rfl W.heap.size 3 i0 (.int .i64 0) 1 8 Tryz.underlying159 hi hz0 hz1 hz2 rfl (by decide) _ _ _ rfl (hrw.alloc _) ⟨wr.heap.size, 0, none⟩ 1 1 [.int .i64 ((256 * wn + k : Nat) : Int)] rfl rfl (cell_one_new _ _ _) (by simp [Value.oneCell']) (by unfold maxLen; omega) (by omega) (by simp; omega) ?_; intro v1 w5 hown5 hgrow5 _)
            have hb5 : Below W.heap.size w3 w5 := (hbl4.alloc hsz4 _).grown hgrow5 (by simp; omega) (rowBaseB hrw)
            have HOW : Hid (w5.ownsRow W.heap.size 3 1 v1 (l ++ bitsL wn sB.data.toList (k + 1)).length (intsV (l ++ bitsL wn sB.data.toList (k + 1)))) := by
             rw [Hid, HNL.out, List.length_append, intsV, List.map_append, Nat.mul_comm wn 256]; exact hown5
            go_wp2
            exact ⟨⟨k + 1, by omega, by go_num, HOW.out, hb5⟩, by simp [intOf]; omega⟩
           | false =>
            rw [hbt] at hbw HNX
            have HNL : Hid (l ++ bitsL wn sB.data.toList (k + 1) = l ++ bitsL wn sB.data.toList k) := by
             rw [Hid, HNX.out]; simp
            have hbit : (((sB[k / 8].toNat : Int) / 2 ^ (7 - k % 8)).tmod 2 == 1) = false := bit_int _ _ hbw.symm
            clear hbt HNX hlb hbw
            generalize l ++ bitsL wn sB.data.toList k = L at hrw hLL HNL
            go_wp2
            exact ⟨⟨k + 1, by omega, by go_num, by rw [HNL.out]; exact hrw, hbl4⟩, by simp [intOf]; omega⟩
          ·obtain rfl : k = 8 * n := by omega
           have hlb := bitsL_len wn sB.data.toList (8 * n)
           have hr5 : RR wr d x3 false := (hbl4.block d hdW).trans HR3.out
           have HL5 := Hid.mk hr5.len
           have hk5 : Kept d W wr := hk3.trans_below hbl4
           have hlen5 : ((l ++ bitsL wn sB.data.toList (8 * n)).length : Int) ≤ 256 * ((wn : Int) + 1) := by rw [List.length_append]; omega
           clear hlb
           generalize l ++ bitsL wn sB.data.toList (8 * n) = L at hrw hlen5 HT
           go_wp2
           refine ⟨⟨L, wn, x3, rfl, by omega, by omega, hrw, hlen5, hr5, by omega, HT, hk5⟩, ?_⟩
           rw [HL5.out, HLn.out]; omega
      ·have HRN : Hid (R = none) := HBad.out (.inr (fun hc => c3 hc.2.1))
       clear HBad HStep HSz
       go_wp2
       go_ret
       exact ⟨_, x3, true, [], rfl, HR3.out.set1 _, hk3.trans (Kept.set _ _ _ _), World.ownsRow_nil .., stp_types_bad _ _ _ (.inr (HRR.out.trans HRN.out)), fun e => by cases e⟩
     ·have HRN : Hid (R = none) := by
       cases b3 with
       | true => exact HBad.out (.inl rfl)
       | false =>
        obtain ⟨hsB, _⟩ := HSz.out rfl
        obtain rfl := ba_empty sB (by omega)
        exact HBad.out (.inr (fun hc => by have := hc.2.2; cases this))
      clear HBad HStep HSz
      go_wp2
      go_ret
      exact ⟨_, x3, true, [], rfl, HR3.out.set1 _, hk3.trans (Kept.set _ _ _ _), World.ownsRow_nil .., stp_types_bad _ _ _ (.inr (HRR.out.trans HRN.out)), fun e => by cases e⟩
    ·have HRN : Hid (R = none) := HBad.out (.inr (fun hc => c1 hc.1))
     clear HBad HStep HSz
     go_wp2
     go_ret
     exact ⟨_, x3, true, [], rfl, HR3.out.set1 _, hk3.trans (Kept.set _ _ _ _), World.ownsRow_nil .., stp_types_bad _ _ _ (.inr (HRR.out.trans HRN.out)), fun e => by cases e⟩
   ·obtain rfl := ba_empty x (by omega)
    have HRE := Hid.mk (tyRel_end HX.out rfl)
    obtain ⟨q, c, hv⟩ := row_as hrow
    subst hv
    go_wp2
    go_ret
    have e : typesR s = some l := HRR.out.trans HRE.out
    exact ⟨_, _, false, l, rfl, hrd, hkp, hrow, stp_types_yes e, fun _ => e⟩
end Go.Proofs.YtdlcldjlfhmlgaaGreatDoor
/- joined: data of pieces that are put down; slices.Equal. -/
namespace Go.Proofs.YtdlcldjlfhmlgaaGreatDoor
open Go.RowKit
theorem ba_ne {x y : ByteArray} (h : x ≠ y) : (x.toList == y.toList) = false ∧ (x.toList != y.toList) = true := by
 have hn : ¬ x.toList = y.toList := fun e => h (ba_ext (by rw [← ByteArray.toList_eq, ← ByteArray.toList_eq]; exact e))
 exact ⟨by simpa using hn, by simpa using hn⟩
end Go.Proofs.YtdlcldjlfhmlgaaGreatDoor
/- DNSKEY: taken apart, and put together. -/
namespace Go.Proofs.YtdlcldjlfhmlgaaGreatDoor
open Go.RowKit
end Go.Proofs.YtdlcldjlfhmlgaaGreatDoor
/- NSEC: taken apart, and put together. -/
namespace Go.Proofs.YtdlcldjlfhmlgaaGreatDoor
open Go.RowKit
theorem ints_of_row {W : World} {n₀ : Nat} {v : Value} {l : List Nat} (h : W.ownsRow n₀ 3 1 v l.length (intsV l)) : IntsAt W v (l.map fun n => ((n : Nat) : Int)) := by
 obtain ⟨q, c, rfl⟩ := row_as h
 refine ⟨q, c, by simp, fun j hj => ?_⟩
 rw [List.length_map] at hj
 rcases h.2 with ⟨_, h0⟩ | ⟨g, cap, cur, hv, _, hg, _, _, _, ht⟩
 ·omega
 ·cases hv
  refine ⟨g, rfl, box_lt hg, ?_⟩
  have := Lib.cells_of_row (w := W) hg l.length j (.int .i64 ((l[j] : Nat) : Int)) (by rw [Nat.mul_one] at ht; rw [ht]; simp [intsV, hj])
  rw [add_at] at this
  simpa using this
end Go.Proofs.YtdlcldjlfhmlgaaGreatDoor
/- NSEC, as the document's own function takes it apart. -/
namespace Go.Proofs.YtdlcldjlfhmlgaaGreatDoor
open Go.RowKit
theorem stp_types_end {s r' : ByteArray} {b b' : Bool} (h : Stp .types s b s r' b') (hb : b' = false) : r'.size = 0 := by
 cases hp : passK .types s with
 | none => rw [h.none hp] at hb; cases hb
 | some m =>
  cases b with
  | true => rw [h.keep rfl] at hb; cases hb
  | false =>
   have hm : m = s.size := by
    simp only [passK] at hp
    split at hp
    ·cases hp; rfl
    ·cases hp
   rw [(h.some m hp rfl).2.1, hm, end_cut]; rfl
def RefNsecPost (d : ByteArray) (e : Ending) (w' : World) : Prop := (∃ t0 t1 v l, splitR 47 d = some [t0, t1] ∧ typesR t1 = some l ∧ e = .returned (.tuple #[.agg #[.string t0, v], .bool true]) ∧ IntsAt w' v (l.map fun n => ((n : Nat) : Int))) ∨ (splitR 47 d = none ∧ e = .returned (.tuple #[.agg #[.string ⟨#[]⟩, .slice none 0 0], .bool false]))
set_option maxRecDepth 100000 in
set_option maxHeartbeats 8000000 in
theorem refNsec_in (d : ByteArray) (hd : d.size ≤ 140737488355328) (W : World) :
  Calls Tryz.prog 131 #[.string d] W fun e w' => RefNsecPost d e w' ∧ Below W.heap.size W w' := by
 have hmo : Tryz.prog.follows Departure.mixedOrders = true := by kernel_rfl
 have Q := Hid.mk (S0.first W 191 #[.string ⟨#[]⟩, .slice none 0 0] d)
 obtain ⟨r0, hr0⟩ : ∃ r0, r0 = d := ⟨_, rfl⟩
 have hz0 : r0.size ≤ 140737488355328 := by rw [hr0]; exact hd
 rw [show S0 W ((W.alloc (.cells #[.string ⟨#[]⟩, .slice none 0 0] 191)).alloc (.cells #[.string d, .bool false] 149)) W.heap.size (W.heap.size + 1) d false 191 #[.string ⟨#[]⟩, .slice none 0 0] = S0 W ((W.alloc (.cells #[.string ⟨#[]⟩, .slice none 0 0] 191)).alloc (.cells #[.string d, .bool false] 149)) W.heap.size (W.heap.size + 1) r0 false 191 #[.string ⟨#[]⟩, .slice none 0 0] by rw [hr0]] at Q
 have HR0 := Hid.mk hr0
 clear hr0
 go_enter Tryz.func131, Tryz.ntmps131
 go_wp2_with fail
 refine (rName_in _ (W.heap.size + 1) r0 false hz0 Q.out.rr).mono ?_
 rintro e w1 ⟨t0, r1, b1, rfl, hr, hk, hs0, hz⟩
 have hz1 : r1.size ≤ 140737488355328 := by omega
 replace Q := Hid.mk (Q.out.call hr hk)
 have P0 := Hid.mk hs0
 have hW1 := Q.out.bel.size
 clear hr hk hs0 hz hz0
 replace Q := Hid.mk (Q.out.new #[.string t0, .slice none 0 0])
 go_wp2_with fail
 refine (rTypes_in _ (W.heap.size + 1) r1 b1 hz1 Q.out.s.rr).mono ?_
 rintro e w2 ⟨v, r2, b2, l, rfl, hr, hk, hrow, hsT, htl⟩
 obtain ⟨q, c, hv⟩ := row_as hrow
 subst hv
 replace Q := Hid.mk (Q.out.call hr hk)
 have PT := Hid.mk hsT
 have HTL := Hid.mk htl
 clear hr hk hsT htl
 obtain ⟨gT, fT⟩ := cells_at (v := .slice none 0 0) (j := 1) Q.out.x rfl
 replace Q : Hid (S1 W (w2.setCell ⟨w1.heap.size, 1, none⟩ (.slice q l.length c)) W.heap.size (W.heap.size + 1) w1.heap.size r2 b2 191 #[.string ⟨#[]⟩, .slice none 0 0] #[.string t0, .slice q l.length c]) := Q.out.put 1 (.slice q l.length c)
 have hsa : (w1.alloc (.cells #[.string t0, .slice none 0 0] 191)).heap.size = w1.heap.size + 1 := by simp
 rw [hsa] at hrow
 have hWlt : W.heap.size < w1.heap.size + 1 := by omega
 have rwx := ownsRow_setCell_below hrow (a := ⟨w1.heap.size, 1, none⟩) (Nat.lt_succ_self _) (.slice q l.length c)
 have RWX := Hid.mk rwx
 clear rwx hrow hsa
 have HC : Hid (Chn (formOf 47) r0 false [t0, r1] r2 b2) := (Chn.cons P0.out (Chn.cons PT.out Chn.nil))
 have HSP := Hid.mk (HC.out.split (by omega))
 rw [HR0.out] at HSP
 have HZ : Hid (b2 = false → r2.size = 0) := fun hb => stp_types_end PT.out hb
 clear HC P0 PT
 obtain ⟨u0, v0⟩ := Q.out.s.rr.c0
 obtain ⟨u1, v1⟩ := Q.out.s.rr.c1
 obtain ⟨x0, y0⟩ := cells_at (v := .string t0) (j := 0) Q.out.x rfl
 obtain ⟨x1, y1⟩ := cells_at (v := .slice q l.length c) (j := 1) Q.out.x rfl
 obtain ⟨a0, c0⟩ := cells_at (v := .string ⟨#[]⟩) (j := 0) Q.out.s.res rfl
 obtain ⟨a1, c1⟩ := cells_at (v := .slice none 0 0) (j := 1) Q.out.s.res rfl
 rcases HSP.out with ⟨e1, e2, e3, e4⟩ | ⟨e1, e4⟩
 ·have HE := Hid.mk e4
  subst e1
  have HT2 := Hid.mk (HTL.out rfl)
  clear e4 HSP HTL
  go_wp2
  have st0 : ((w2.setCell ⟨w1.heap.size, 1, none⟩ (.slice q l.length c)).setCell ⟨W.heap.size, 0, none⟩ (.string t0)).heap[W.heap.size]? = some (.cells #[.string t0, .slice none 0 0] 191 (0, 0)) := cells_put (j := 0) Q.out.s.res (.string t0)
  have rw0 := ownsRow_setCell_below RWX.out (a := ⟨W.heap.size, 0, none⟩) hWlt (.string t0)
  have st1 : (((w2.setCell ⟨w1.heap.size, 1, none⟩ (.slice q l.length c)).setCell ⟨W.heap.size, 0, none⟩ (.string t0)).setCell ⟨W.heap.size, 1, none⟩ (.slice q l.length c)).heap[W.heap.size]? = some (.cells #[.string t0, .slice q l.length c] 191 (0, 0)) := cells_put (j := 1) st0 (.slice q l.length c)
  have rw1 := ownsRow_setCell_below rw0 (a := ⟨W.heap.size, 1, none⟩) hWlt (.slice q l.length c)
  have hfin := st1
  refine bodyPost_ret (v := .tuple #[.agg #[.string t0, .slice q l.length c], .bool true]) (by simp [results, Tryz.results131, go_sem, (cells_at (v := .string t0) (j := 0) hfin rfl).1, (cells_at (v := .slice q l.length c) (j := 1) hfin rfl).1]) rfl ⟨.inl ⟨t0, r1, _, l, HE.out, HT2.out, rfl, ints_of_row rw1⟩, ((Q.out.s.bel).setCell (p := ⟨W.heap.size, 0, none⟩) (Nat.le_refl _) _).setCell (p := ⟨W.heap.size, 1, none⟩) (Nat.le_refl _) _⟩
 ·have HE := Hid.mk e4
  clear e4 HSP HTL
  cases b2 with
  | true =>
   clear e1 HZ
   go_wp2
   have st0 : ((w2.setCell ⟨w1.heap.size, 1, none⟩ (.slice q l.length c)).setCell ⟨W.heap.size, 0, none⟩ (.string ⟨#[]⟩)).heap[W.heap.size]? = some (.cells #[.string ⟨#[]⟩, .slice none 0 0] 191 (0, 0)) := cells_put (j := 0) Q.out.s.res (.string ⟨#[]⟩)
   have st1 : (((w2.setCell ⟨w1.heap.size, 1, none⟩ (.slice q l.length c)).setCell ⟨W.heap.size, 0, none⟩ (.string ⟨#[]⟩)).setCell ⟨W.heap.size, 1, none⟩ (.slice none 0 0)).heap[W.heap.size]? = some (.cells #[.string ⟨#[]⟩, .slice none 0 0] 191 (0, 0)) := cells_put (j := 1) st0 (.slice none 0 0)
   have hfin := st1
   refine bodyPost_ret (v := .tuple #[.agg #[.string ⟨#[]⟩, .slice none 0 0], .bool false]) (by simp [results, Tryz.results131, go_sem, (cells_at (v := .string ⟨#[]⟩) (j := 0) hfin rfl).1, (cells_at (v := .slice none 0 0) (j := 1) hfin rfl).1]) rfl ⟨.inr ⟨HE.out, rfl⟩, ((Q.out.s.bel).setCell (p := ⟨W.heap.size, 0, none⟩) (Nat.le_refl _) _).setCell (p := ⟨W.heap.size, 1, none⟩) (Nat.le_refl _) _⟩
  | false =>
   have e3 : 2000 < d.size := by
    have := HZ.out rfl
    rcases e1 with h | h | h
    ·cases h
    ·omega
    ·exact h
   clear e1 HZ
   go_wp2
   have st0 : ((w2.setCell ⟨w1.heap.size, 1, none⟩ (.slice q l.length c)).setCell ⟨W.heap.size, 0, none⟩ (.string ⟨#[]⟩)).heap[W.heap.size]? = some (.cells #[.string ⟨#[]⟩, .slice none 0 0] 191 (0, 0)) := cells_put (j := 0) Q.out.s.res (.string ⟨#[]⟩)
   have st1 : (((w2.setCell ⟨w1.heap.size, 1, none⟩ (.slice q l.length c)).setCell ⟨W.heap.size, 0, none⟩ (.string ⟨#[]⟩)).setCell ⟨W.heap.size, 1, none⟩ (.slice none 0 0)).heap[W.heap.size]? = some (.cells #[.string ⟨#[]⟩, .slice none 0 0] 191 (0, 0)) := cells_put (j := 1) st0 (.slice none 0 0)
   have hfin := st1
   refine bodyPost_ret (v := .tuple #[.agg #[.string ⟨#[]⟩, .slice none 0 0], .bool false]) (by simp [results, Tryz.results131, go_sem, (cells_at (v := .string ⟨#[]⟩) (j := 0) hfin rfl).1, (cells_at (v := .slice none 0 0) (j := 1) hfin rfl).1]) rfl ⟨.inr ⟨HE.out, rfl⟩, ((Q.out.s.bel).setCell (p := ⟨W.heap.size, 0, none⟩) (Nat.le_refl _) _).setCell (p := ⟨W.heap.size, 1, none⟩) (Nat.le_refl _) _⟩
end Go.Proofs.YtdlcldjlfhmlgaaGreatDoor
