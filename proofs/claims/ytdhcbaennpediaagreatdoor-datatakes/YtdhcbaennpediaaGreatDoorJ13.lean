/- Texts of this proof, joined: DTyEnc, DRefTy, DJoin, DLower2. -/
import Derived.Test.YtdhcbaennpediaaGreatDoorJ12
import Derived.Test.YtdhcbaennpediaaGreatDoorJ8
import Derived.BigRegion
/- bytesOfTypes: a list of types as bytes. -/
namespace Go.Proofs.YtdhcbaennpediaaGreatDoor
set_option linter.unusedVariables false
open Go.RowKit

theorem addTail_eq (p0 bs : List UInt8) (c0 : UInt8) (b k : Nat) (hb : b = p0.length + 1) : addTail (p0 ++ c0 :: bs) b k = p0 ++ UInt8.ofNat (setB bs (k % 256)).length :: setB bs (k % 256) := by
  subst hb
  have hm : k % 256 % 8 = k % 8 := by omega
  have e2 : (p0 ++ c0 :: bs) ++ List.replicate (p0.length + 1 + k % 256 / 8 + 1 - (p0 ++ c0 :: bs).length) (0 : UInt8) = p0 ++ c0 :: padB bs (k % 256) := by
    rw [padB, List.append_assoc, List.cons_append, List.length_append, List.length_cons]
    rw [show p0.length + 1 + k % 256 / 8 + 1 - (p0.length + (bs.length + 1)) = k % 256 / 8 + 1 - bs.length by omega]
  have e3 : (p0 ++ c0 :: padB bs (k % 256)).getD (p0.length + 1 + k % 256 / 8) 0 = bs.getD (k % 256 / 8) 0 := by
    rw [← padB_get bs (k % 256) (k % 256 / 8), List.getD_eq_getElem?_getD, List.getD_eq_getElem?_getD, List.getElem?_append_right (by omega), show p0.length + 1 + k % 256 / 8 - p0.length = k % 256 / 8 + 1 by omega, List.getElem?_cons_succ]
  have e4 : (p0 ++ c0 :: padB bs (k % 256)).set (p0.length + 1 + k % 256 / 8) (UInt8.ofNat ((bs.getD (k % 256 / 8) 0).toNat ||| 2 ^ (7 - k % 8))) = p0 ++ c0 :: setB bs (k % 256) := by
    rw [List.set_append_right _ _ (by omega), show p0.length + 1 + k % 256 / 8 - p0.length = k % 256 / 8 + 1 by omega, List.set_cons_succ, setB, hm]
  unfold addTail
  simp only
  rw [e2, e3, e4, show p0.length + 1 - 1 = p0.length by omega, List.set_append_right _ _ (Nat.le_refl _), Nat.sub_self, List.set_cons_zero]
  rw [show (p0 ++ c0 :: setB bs (k % 256)).length - (p0.length + 1) = (setB bs (k % 256)).length by simp; omega]

/-- the list in the making is that of these windows. -/
structure Enc (ws : List Win) (L : List UInt8) (b : Nat) (last : Int) : Prop where
  bytes : L = encW ws
  ok : OkW (-1) ws
  low : -1 ≤ last
  high : last ≤ 65535
  le : ∀ x ∈ tysW ws, (x : Int) ≤ last
  none : ws = [] → last = -1
  some : ∀ r p, ws = r ++ [p] → b = (encW r).length + 2 ∧ ((p.1 : Nat) : Int) = last / 256
theorem Enc.nil : Enc [] [] 0 (-1) := ⟨rfl, trivial, by omega, by omega, by simp [tysW], fun _ => rfl, fun r p h => by simp at h⟩
theorem encW_snoc (r : List Win) (p : Win) : encW (r ++ [p]) = encW r ++ UInt8.ofNat p.1 :: UInt8.ofNat p.2.length :: p.2 := by rw [encW_app]; simp [encW]
theorem encW_len : ∀ (ws : List Win) (last : Int), OkW last ws → -1 ≤ last → last ≤ 255 → ((encW ws).length : Int) ≤ 34 * (255 - last)
  | [], last, _, h, h' => by simp [encW]; omega
  | p :: r, last, ⟨h1, h2, h3, h4, h5⟩, hl, _ => by
    have := encW_len r p.1 h5 (by omega) (by omega)
    simp [encW]
    omega
theorem Enc.len {ws : List Win} {L : List UInt8} {b : Nat} {last : Int} (h : Enc ws L b last) : L.length ≤ 8704 := by
  have := encW_len ws (-1) h.ok (by omega) (by omega)
  rw [h.bytes]
  omega
theorem Enc.next {ws : List Win} {L : List UInt8} {b : Nat} {last : Int} (h : Enc ws L b last) (k : Nat) (hk : k ≤ 65535) (hl : last < (k : Int)) (b' : Nat) (hb : ∀ r p, addT ws k = r ++ [p] → b' = (encW r).length + 2 ∧ p.1 = k / 256) (L' : List UInt8) (hL : L' = encW (addT ws k)) : Enc (addT ws k) L' b' k := by
  obtain ⟨a1, a2⟩ := addT_ok ws k hk h.ok (fun x hx => by have := h.le x hx; omega)
  refine ⟨hL, a1, by omega, by omega, fun x hx => ?_, fun e => ?_, fun r p e => ?_⟩
  · rw [a2, List.mem_append] at hx
    rcases hx with hx | hx
    · have := h.le x hx; omega
    · simp only [List.mem_singleton] at hx; omega
  · rw [e] at a2
    have := congrArg List.length a2
    simp [tysW] at this
  · obtain ⟨c1, c2⟩ := hb r p e
    exact ⟨c1, by rw [c2]; omega⟩
theorem snoc_inj {r r' : List Win} {p p' : Win} (h : r ++ [p] = r' ++ [p']) : r = r' ∧ p = p' := by
  have := List.append_inj' h rfl
  exact ⟨this.1, by simpa using this.2⟩
theorem Enc.same {ws : List Win} {L : List UInt8} {b : Nat} {last : Int} (h : Enc ws L b last) (k : Nat) (hk : k ≤ 65535) (hl : last < (k : Int)) (hw : ((k / 256 : Nat) : Int) = last / 256) : 1 ≤ b ∧ b ≤ L.length ∧ Enc (addT ws k) (addTail L b k) b k := by
  have hlow := h.low
  rcases List.eq_nil_or_concat ws with rfl | ⟨r, p, rfl⟩
  · have := h.none rfl
    omega
  · rw [List.concat_eq_append] at h ⊢
    obtain ⟨hb, hp⟩ := h.some r p rfl
    have hL := h.bytes
    rw [encW_snoc] at hL
    have hpk : p.1 = k / 256 := by omega
    have ha : addT (r ++ [p]) k = r ++ [(p.1, setB p.2 (k % 256))] := by
      unfold addT
      rw [List.getLast?_concat]
      simp only
      rw [if_pos hpk, List.dropLast_concat]
    refine ⟨by omega, by rw [hL, hb]; simp, h.next k hk hl b (fun r' p' e => ?_) _ ?_⟩
    · rw [ha] at e
      obtain ⟨rfl, rfl⟩ := snoc_inj e
      exact ⟨hb, hpk⟩
    · rw [ha, encW_snoc, hL]
      have := addTail_eq (encW r ++ [UInt8.ofNat p.1]) p.2 (UInt8.ofNat p.2.length) b k (by rw [hb]; simp)
      simp only [List.append_assoc, List.cons_append, List.nil_append] at this ⊢
      exact this
theorem Enc.new {ws : List Win} {L : List UInt8} {b : Nat} {last : Int} (h : Enc ws L b last) (k : Nat) (hk : k ≤ 65535) (hl : last < (k : Int)) (hw : ¬ ((k / 256 : Nat) : Int) = last / 256) : Enc (addT ws k) (addTail (L ++ [UInt8.ofNat (k / 256), 0]) (L.length + 2) k) (L.length + 2) k := by
  have ha : addT ws k = ws ++ [(k / 256, setB [] (k % 256))] := by
    rcases List.eq_nil_or_concat ws with rfl | ⟨r, p, rfl⟩
    · rfl
    · rw [List.concat_eq_append] at h ⊢
      obtain ⟨hb, hp⟩ := h.some r p rfl
      unfold addT
      rw [List.getLast?_concat]
      simp only
      rw [if_neg (by omega)]
  refine h.next k hk hl _ (fun r' p' e => ?_) _ ?_
  · rw [ha] at e
    obtain ⟨rfl, rfl⟩ := snoc_inj e
    exact ⟨by rw [h.bytes], rfl⟩
  · rw [ha, encW_snoc, ← h.bytes]
    have := addTail_eq (L ++ [UInt8.ofNat (k / 256)]) [] 0 (L.length + 2) k (by simp)
    simp only [List.append_assoc, List.cons_append, List.nil_append] at this ⊢
    exact this

theorem add_enc (W : World) (d : Nat) (ws : List Win) (L : List UInt8) (b : Nat) (last : Int) (k : Nat) (h : TL W d L b last) (he : Enc ws L b last) (hk : k ≤ 65535) (hl : last < (k : Int)) :
    Calls Tryz.prog 74 #[boxV d, .int .i64 (k : Int)] W fun e w' => e = .returned (.tuple #[]) ∧ (∃ L' b', TL w' d L' b' k ∧ Enc (addT ws k) L' b' k) ∧ Below d W w' := by
  have hlen := he.len
  by_cases hw : ((k / 256 : Nat) : Int) = last / 256
  · obtain ⟨h1, h2, h3⟩ := he.same k hk hl hw
    refine (add_same W d L b last k h hk hl (by omega) h1 h2 hw he.low).mono ?_
    rintro e w' ⟨rfl, ht, hb⟩
    exact ⟨rfl, ⟨_, _, ht, h3⟩, hb⟩
  · refine (add_new W d L b last k h hk hl (by omega) hw he.low).mono ?_
    rintro e w' ⟨rfl, ht, hb⟩
    exact ⟨rfl, ⟨_, _, ht, he.new k hk hl hw⟩, hb⟩

/-- the windows of a list of types; none: they do not rise, or are none. -/
def encGo : List Win → Int → List Int → Option (List Win)
  | ws, _, [] => some ws
  | ws, last, k :: r => if (0 ≤ k ∧ k ≤ 65535) ∧ last < k then encGo (addT ws k.toNat) k r else none
def encR (l : List Int) : Option (List UInt8) := (encGo [] (-1) l).map encW
theorem encGo_rise : ∀ (l : List Nat) (ws : List Win) (last : Int), Rise last l → encGo ws last (l.map fun n => ((n : Nat) : Int)) = some (l.foldl addT ws)
  | [], _, _, _ => rfl
  | k :: r, ws, last, ⟨h1, h2, h3⟩ => by
    rw [List.map_cons, encGo, if_pos ⟨⟨by omega, by omega⟩, h1⟩, Int.toNat_natCast, encGo_rise r _ _ h3, List.foldl_cons]
theorem encR_rise {l : List Nat} (h : Rise (-1) l) : encR (l.map fun n => ((n : Nat) : Int)) = some (encT l) := by
  rw [encR, encGo_rise l [] (-1) h]
  rfl

def IntsAt (W : World) (v : Value) (l : List Int) : Prop := ∃ q c, v = .slice q l.length c ∧ ∀ j (h : j < l.length), ∃ g, q = some ⟨g, 0, none⟩ ∧ g < W.heap.size ∧ W.cell? ⟨g, j, none⟩ = some (.int .i64 l[j])
def TbPost (R : Option (List UInt8)) (W : World) (e : Ending) (w' : World) : Prop := (match R with
  | some l => e = .returned (.string ⟨l.toArray⟩)
  | none => e = .panicked mustV) ∧ Below W.heap.size W w'

set_option maxRecDepth 100000 in
set_option maxHeartbeats 2000000 in
theorem bytesOfTypes_in (W : World) (v : Value) (l : List Int) (hl : l.length ≤ 1000000) (hv : IntsAt W v l) :
    Calls Tryz.prog 55 #[v] W fun e w' => TbPost (encR l) W e w' := by
  obtain ⟨q, c, rfl, hc⟩ := hv
  have HC := Hid.mk hc
  obtain ⟨R, hR⟩ : ∃ R, encGo [] (-1) l = R := ⟨_, rfl⟩
  have HR := Hid.mk hR
  have hRR : encR l = R.map encW := by rw [encR, hR]
  rw [hRR]
  clear hc hR hRR
  go_enter Tryz.func55, Tryz.ntmps55
  go_wp2_with fail
  refine (newTypeList_in _).mono ?_
  rintro e w1 ⟨rfl, htl, hb1⟩
  have HTL := Hid.mk htl
  have hdl : W.heap.size < w1.heap.size := by obtain ⟨v, h, _⟩ := htl; exact box_lt h
  clear htl
  go_wp2
  go_loopw [9] (fun iv wr => ∃ (m : Nat) (ws : List Win) (L : List UInt8) (b : Nat) (last : Int), m ≤ l.length ∧ iv = .int .i64 m ∧ Hid (TL wr W.heap.size L b last) ∧ Hid (Enc ws L b last) ∧ Hid (R = encGo ws last (l.drop m)) ∧ Below W.heap.size W wr) (fun iv _ => l.length - (intOf iv).toNat)
  case atStart => exact ⟨0, [], [], 0, -1, Nat.zero_le _, rfl, HTL, Enc.nil, by rw [Hid, List.drop_zero]; exact HR.out.symm, hb1⟩
  case round =>
    obtain ⟨m, ws, L, b, last, hm, rfl, HT, HE, HX, hbl⟩ := hrel
    by_cases hlt : m < l.length
    · obtain ⟨g, hq, hg, hcg⟩ := HC.out m hlt
      subst hq
      have hcw := (hbl.cell (p := ⟨g, m, none⟩) hg).trans hcg
      have hdr : l.drop m = l[m] :: l.drop (m + 1) := List.drop_eq_getElem_cons hlt
      have HD : Hid (R = encGo ws last (l[m] :: l.drop (m + 1))) := by rw [Hid, ← hdr]; exact HX.out
      clear hdr HX hcg
      generalize l[m] = x at hcw HD
      by_cases hk : (0 ≤ x ∧ x ≤ 65535) ∧ last < x
      · obtain ⟨k, rfl⟩ : ∃ k : Nat, x = k := ⟨x.toNat, by omega⟩
        have HA := Hid.mk (add_enc wr W.heap.size ws L b last k HT.out HE.out (by omega) hk.2)
        have HN : Hid (R = encGo (addT ws k) (k : Int) (l.drop (m + 1))) := by
          rw [Hid, HD.out, encGo, if_pos hk, Int.toNat_natCast]
        clear hk HD
        go_wp2_with fail
        refine HA.out.mono ?_
        rintro e w2 ⟨rfl, ⟨L', b', ht', he'⟩, hb2⟩
        have hbl2 := hbl.trans hb2
        go_wp2
        exact ⟨⟨m + 1, addT ws k, L', b', k, by omega, by go_num, ht', he', HN, hbl2⟩, by simp [intOf]; omega⟩
      · have HA := Hid.mk (add_no wr W.heap.size L b last x HT.out hk)
        have HN : Hid (R = none) := by rw [Hid, HD.out, encGo, if_neg hk]
        clear hk HD
        go_wp2_with fail
        refine HA.out.mono ?_
        rintro e w2 ⟨rfl, rfl⟩
        go_wp2
        rw [HN.out]
        exact ⟨rfl, rfl, hbl⟩
    · obtain rfl : m = l.length := by omega
      have HN : Hid (R = some ws) := by rw [Hid, HX.out, List.drop_length]; rfl
      have HB := Hid.mk HE.out.bytes
      obtain ⟨v0, hh, hrow⟩ := HT.out
      obtain ⟨qv, cv, hqv⟩ := row_as hrow
      subst hqv
      obtain ⟨c0, f0⟩ := cells_at (v := .slice qv L.length cv) (j := 0) hh rfl
      have hcv := row_back hrow rfl rfl
      clear hh hrow
      go_wp2
      go_ret
      rw [HN.out]
      exact ⟨by rw [HB.out]; rfl, hbl⟩
end Go.Proofs.YtdhcbaennpediaaGreatDoor

/- The document's own reader (guidepostref02): types. -/
namespace Go.Proofs.YtdhcbaennpediaaGreatDoor
set_option linter.unusedVariables false
open Go.RowKit

/-- the numbers of a list, in a row of one's own. -/
theorem ints_of_own {W : World} {n₀ : Nat} {v : Value} {l : List Nat} (h : W.ownsRow n₀ 3 1 v l.length (intsV l)) : IntsAt W v (l.map fun n => ((n : Nat) : Int)) := by
  obtain ⟨q, c, rfl⟩ := row_as h
  refine ⟨q, c, by simp, fun j hj => ?_⟩
  rw [List.length_map] at hj
  rcases h.2 with ⟨_, h0⟩ | ⟨g, cap, cur, hv, _, hg, _, _, _, ht⟩
  · omega
  · cases hv
    refine ⟨g, rfl, box_lt hg, ?_⟩
    have := Lib.cells_of_row (w := W) hg l.length j (.int .i64 ((l[j] : Nat) : Int)) (by rw [Nat.mul_one] at ht; rw [ht]; simp [intsV, hj])
    rw [add_at] at this
    simpa using this

/-- how much is left. -/
def rrLen (w : World) (d : Nat) : Nat := match w.cell? ⟨d, 0, none⟩ with
  | some (.string s) => s.size
  | _ => 0
theorem RR.len {W : World} {d : Nat} {s : ByteArray} {b : Bool} (h : RR W d s b) : rrLen W d = s.size := by rw [rrLen, h.c0.1]
theorem Kept.trans_below {d : Nat} {A B C : World} (h : Kept d A B) (k : Below A.heap.size B C) : Kept d A C :=
  ⟨k.os.trans h.os, k.tape.trans h.tape, k.output.trans h.output, Nat.le_trans h.size k.size, fun b hb hd => (k.block b hb).trans (h.same b hb hd)⟩
theorem bit_int (a e : Nat) {c : Bool} (h : (a / 2 ^ e % 2 == 1) = c) : (((a : Int) / 2 ^ e).tmod 2 == 1) = c := by
  have e1 : ((a : Int) / 2 ^ e) = ((a / 2 ^ e : Nat) : Int) := by push_cast; rfl
  have e2 : ((a / 2 ^ e : Nat) : Int).tmod 2 = ((a / 2 ^ e % 2 : Nat) : Int) := rfl
  rw [e1, e2, ← h, Bool.eq_iff_iff, beq_iff_eq, beq_iff_eq]
  omega
theorem one_at {x : ByteArray} (h0 : 0 < x.size) : numB (tkS 1 x).data.toList = x[0].toNat ∧ tkR 1 x = x.extract 1 x.size := by
  rw [tkS, if_pos (by omega), tkR, if_pos (by omega), first_one x h0]
  simp [numB]
/-- a window as the document's reader takes it. -/
theorem ty_parts {x : ByteArray} (h0 : 0 < x.size) (x1 x2 x3 sB : ByteArray) (n : Nat) (b3 : Bool) (e1 : x1 = tkR 1 x) (en : n = numB (tkS 1 x1).data.toList) (e2 : x2 = tkR 1 x1) (eS : sB = tkS n x2) (e3 : x3 = tkR n x2) (eb : b3 = (decide (x1.size < 1) || decide (x2.size < n))) :
    (b3 = true → cntK (x.extract 1 x.size) = none) ∧ (b3 = false → cntK (x.extract 1 x.size) = some (1 + n) ∧ sB = x.extract 2 (1 + n + 1) ∧ x3 = x.extract (1 + n + 1) x.size ∧ sB.size = n ∧ x3.size + n + 2 = x.size) ∧ n ≤ 255 := by
  have hx1 : x1 = x.extract 1 x.size := by rw [e1]; exact (one_at h0).2
  have H := stp_salt x1 false
  rw [← en, ← e2, ← e3, ← eS, Bool.false_or, ← eb] at H
  have hn : n ≤ 255 := by
    rw [en]
    have := numB_lt (tkS 1 x1).data.toList
    have hl : (tkS 1 x1).data.toList.length ≤ 1 := by rw [size_list]; exact (tkS_le 1 x1).1
    have h2 : 256 ^ (tkS 1 x1).data.toList.length ≤ 256 ^ 1 := Nat.pow_le_pow_right (by omega) hl
    omega
  rw [← hx1]
  refine ⟨fun hb => ?_, fun hb => ?_, hn⟩
  · cases hc : cntK x1 with
    | none => rfl
    | some m =>
      have := (H.some m hc rfl).2.2
      rw [hb] at this
      cases this
  · cases hc : cntK x1 with
    | none =>
      have := H.none hc
      rw [hb] at this
      cases this
    | some m =>
      have hm := cnt_num hc
      rw [← en] at hm
      have hle := cnt_le hc
      have hz : x1.size = x.size - 1 := by rw [hx1, ByteArray.size_extract]; omega
      have h2 : x2 = x.extract 2 x.size := by
        rw [e2, tkR, if_pos (by omega), hz, hx1, ByteArray.extract_extract]
        congr 1 <;> omega
      have hz2 : x2.size = x.size - 2 := by rw [h2, ByteArray.size_extract]; omega
      have hS : sB = x.extract 2 (1 + n + 1) := by
        rw [eS, tkS, if_pos (by omega), h2, ByteArray.extract_extract]
        congr 1 <;> omega
      have h3 : x3 = x.extract (1 + n + 1) x.size := by
        rw [e3, tkR, if_pos (by omega), hz2, h2, ByteArray.extract_extract]
        congr 1 <;> omega
      refine ⟨by rw [hm], hS, h3, ?_, ?_⟩
      · rw [hS, ByteArray.size_extract]; omega
      · rw [h3, ByteArray.size_extract]; omega

theorem stp_types_yes {s : ByteArray} {l : List Nat} (h : typesR s = some l) : Stp .types s false s ⟨#[]⟩ false := by
  refine ⟨fun e => ?_, id, fun m e _ => ?_⟩
  · simp only [passK, h] at e
    cases e
  · simp only [passK, h] at e
    cases e
    exact ⟨(cut_all s).symm, (end_cut s).symm, rfl⟩
theorem stp_types_bad (s r' : ByteArray) (b : Bool) (h : b = true ∨ typesR s = none) : Stp .types s b s r' true := by
  refine ⟨fun _ => rfl, fun _ => rfl, fun m e hb => ?_⟩
  rcases h with h | h
  · rw [h] at hb; cases hb
  · simp only [passK, h] at e
    cases e

/-- what the document's reader hands back for types. -/
def TypesPost (s : ByteArray) (b : Bool) (d : Nat) (W : World) (e : Ending) (w' : World) : Prop := ∃ v r' b' l, e = .returned v ∧ RR w' d r' b' ∧ Kept d W w' ∧ w'.ownsRow W.heap.size 3 1 v l.length (intsV l) ∧ Stp .types s b s r' b' ∧ (b' = false → typesR s = some l)

set_option maxRecDepth 100000 in
set_option maxHeartbeats 4000000 in
theorem rTypes_in (W : World) (d : Nat) (s : ByteArray) (b : Bool) (hs : s.size ≤ 140737488355328) (h : RR W d s b) :
    Calls Tryz.prog 42 #[boxV d] W fun e w' => TypesPost s b d W e w' := by
  obtain ⟨i0, hi, hz0, hz1, hz2⟩ := info_parts info3
  have hdW := h.lt
  cases b with
  | true =>
    obtain ⟨hc0, hf0⟩ := h.c0
    obtain ⟨hc1, hf1⟩ := h.c1
    have HH := Hid.mk h
    clear h
    go_enter Tryz.func42, Tryz.ntmps42
    go_wp2
    go_loopw [3, 4] (fun lv tv wr => lv = .slice none 0 0 ∧ wr = W) (fun _ _ _ => 0)
    case atStart => exact ⟨rfl, rfl⟩
    case round =>
      obtain ⟨rfl, rfl⟩ := hrel
      by_cases h0 : 0 < s.size
      · obtain ⟨hn1, hn2⟩ := ne_text s h0
        have hn3 := ne_bne s h0
        go_wp2
        go_ret
        exact ⟨_, s, true, [], rfl, HH.out, Kept.refl _ _, World.ownsRow_nil .., stp_types_bad _ _ _ (.inl rfl), fun e => by cases e⟩
      · obtain rfl := ba_empty s (by omega)
        go_wp2
        go_ret
        exact ⟨_, _, true, [], rfl, HH.out, Kept.refl _ _, World.ownsRow_nil .., stp_types_bad _ _ _ (.inl rfl), fun e => by cases e⟩
  | false =>
    have HF := Hid.mk (tyRel_first s)
    obtain ⟨R, hR⟩ : ∃ R, typesR s = R := ⟨_, rfl⟩
    rw [hR] at HF
    have HRR := Hid.mk hR
    clear hR
    have HH := Hid.mk h
    clear h
    go_enter Tryz.func42, Tryz.ntmps42
    go_wp2
    go_loopw [3, 4] (fun lv tv wr => ∃ (l : List Nat) (last : Int) (x : ByteArray), tv = .int .i64 last ∧ -1 ≤ last ∧ last ≤ 255 ∧ wr.ownsRow W.heap.size 3 1 lv l.length (intsV l) ∧ (l.length : Int) ≤ 256 * (last + 1) ∧ RR wr d x false ∧ x.size ≤ 140737488355328 ∧ Hid (TyRel R last l x) ∧ Kept d W wr) (fun _ _ wr => rrLen wr d)
    case atStart => exact ⟨[], -1, s, rfl, by omega, by omega, World.ownsRow_nil .., by simp, HH.out, hs, HF, Kept.refl _ _⟩
    case round =>
      obtain ⟨l, last, x, rfl, hl1, hl2, hrow, hll, hrd, hx, HX, hkp⟩ := hrel
      have HLn := Hid.mk hrd.len
      obtain ⟨hc0, hf0⟩ := hrd.c0
      obtain ⟨hc1, hf1⟩ := hrd.c1
      have hszW := hkp.size
      by_cases h0 : 0 < x.size
      · obtain ⟨hn1, hn2⟩ := ne_text x h0
        have hn3 := ne_bne x h0
        obtain ⟨hv1, hr1e⟩ := one_at h0
        obtain ⟨x1, ex1⟩ : ∃ x1, x1 = tkR 1 x := ⟨_, rfl⟩
        obtain ⟨n, en⟩ : ∃ n, n = numB (tkS 1 x1).data.toList := ⟨_, rfl⟩
        obtain ⟨x2, ex2⟩ : ∃ x2, x2 = tkR 1 x1 := ⟨_, rfl⟩
        obtain ⟨sB, eS⟩ : ∃ sB, sB = tkS n x2 := ⟨_, rfl⟩
        obtain ⟨x3, ex3⟩ : ∃ x3, x3 = tkR n x2 := ⟨_, rfl⟩
        obtain ⟨b3, eb⟩ : ∃ b3, b3 = (decide (x1.size < 1) || decide (x2.size < n)) := ⟨_, rfl⟩
        obtain ⟨P1, P2, P3⟩ := ty_parts h0 x1 x2 x3 sB n b3 ex1 en ex2 eS ex3 eb
        have hx1z : x1.size ≤ 140737488355328 := by rw [ex1]; have := tkR_le 1 x; omega
        have hx2z : x2.size ≤ 140737488355328 := by rw [ex2]; have := tkR_le 1 x1; omega
        have T1 : Hid (Calls Tryz.prog 39 #[boxV d, .int .i64 1] wr fun e w' => e = .returned (.int .i64 ((x[0].toNat : Nat) : Int)) ∧ RR w' d x1 false ∧ Kept d wr w') := by
          have := rNum_in wr d 1 x false hx (by omega) hrd
          rw [hv1, ← ex1, decide_eq_false (by omega : ¬ x.size < 1)] at this
          exact this
        have T2 : Hid (∀ w, RR w d x1 false → Calls Tryz.prog 39 #[boxV d, .int .i64 1] w fun e w' => e = .returned (.int .i64 ((n : Nat) : Int)) ∧ RR w' d x2 (decide (x1.size < 1)) ∧ Kept d w w') := fun w hw => by
          have := rNum_in w d 1 x1 false hx1z (by omega) hw
          rw [← en, ← ex2, Bool.false_or] at this
          exact this
        have T3 : Hid (∀ w, RR w d x2 (decide (x1.size < 1)) → Calls Tryz.prog 43 #[boxV d, .int .i64 n] w fun e w' => e = .returned (.string sB) ∧ RR w' d x3 b3 ∧ Kept d w w') := fun w hw => by
          have := rTake_in w d n x2 _ hx2z (by omega) hw
          rw [← eS, ← ex3, ← eb] at this
          exact this
        have HBad : Hid ((b3 = true ∨ ¬ (last < (x[0].toNat : Int) ∧ n ≤ 32 ∧ lastOk sB.data.toList = true)) → R = none) := by
          intro hb
          cases hb3 : b3 with
          | true => exact tyRel_none HX.out h0 (P1 hb3)
          | false =>
            obtain ⟨k1, k2, k3, k4, k5⟩ := P2 hb3
            refine tyRel_bad HX.out h0 k1 (fun hc => ?_)
            rw [← k2] at hc
            rcases hb with hb | hb
            · rw [hb3] at hb; cases hb
            · exact hb ⟨hc.1, by omega, hc.2.2⟩
        have HStep : Hid (b3 = false → last < (x[0].toNat : Int) ∧ n ≤ 32 ∧ lastOk sB.data.toList = true → TyRel R (x[0].toNat : Int) (l ++ bitsL x[0].toNat sB.data.toList (8 * n)) x3) := by
          intro hb3 hc
          obtain ⟨k1, k2, k3, k4, k5⟩ := P2 hb3
          have := tyRel_step HX.out h0 k1 (by rw [← k2]; exact ⟨hc.1, by omega, hc.2.2⟩)
          rw [← k2, ← k3, show 8 * (1 + n - 1) = 8 * n by omega] at this
          exact this
        have HSz : Hid (b3 = false → sB.size = n ∧ x3.size + n + 2 = x.size) := fun hb3 => ⟨(P2 hb3).2.2.2.1, (P2 hb3).2.2.2.2⟩
        have hb0 := x[0].toNat_lt
        clear P1 P2 ex1 en ex2 eS ex3 eb hv1 hr1e HX
        generalize x[0].toNat = wn at T1 HBad HStep hb0
        go_wp2_with fail
        refine T1.out.mono ?_
        rintro e w1 ⟨rfl, hr1, hk1⟩
        go_wp2_with fail
        refine (T2.out _ hr1).mono ?_
        rintro e w2 ⟨rfl, hr2, hk2⟩
        go_wp2_with fail
        refine (T3.out _ hr2).mono ?_
        rintro e w3 ⟨rfl, hr3, hk3'⟩
        have hk3 : Kept d W w3 := hkp.trans (hk1.trans (hk2.trans hk3'))
        have hrow3 := row_kept' hrow (hk1.trans (hk2.trans hk3')) hdW
        obtain ⟨g0, f0⟩ := hr3.c0
        obtain ⟨g1, f1⟩ := hr3.c1
        have HR3 := Hid.mk hr3
        have hsz3 : W.heap.size ≤ w3.heap.size := hk3.size
        clear T1 T2 T3 hrow hrd hr1 hr2 hk1 hk2 hk3' hkp hc0 hf0 hc1 hf1 hr3
        by_cases c1 : last < (wn : Int)
        · by_cases c2 : 1 ≤ n
          · by_cases c3 : n ≤ 32
            · cases b3 with
              | true =>
                have HRN : Hid (R = none) := HBad.out (.inl rfl)
                clear HBad HStep HSz
                go_wp2
                go_ret
                exact ⟨_, x3, true, [], rfl, HR3.out.set1 _, hk3.trans (Kept.set _ _ _ _), World.ownsRow_nil .., stp_types_bad _ _ _ (.inr (HRR.out.trans HRN.out)), fun e => by cases e⟩
              | false =>
                obtain ⟨hsB, hx3⟩ := HSz.out rfl
                have hla := last_at sB (by omega)
                have hidx : n - 1 < sB.size := by omega
                have hwn : IntKind.i64.wrap ((n : Int) - 1) = ((n - 1 : Nat) : Int) := by rw [IntKind.wrap_i64]; omega
                have hla2 : lastOk sB.data.toList = (sB[n - 1] != 0) := by subst hsB; exact hla
                clear hla
                by_cases c4 : sB[n - 1].toNat = 0
                · have hne : ((sB[n - 1].toNat : Int) == 0) = true := by rw [c4]; rfl
                  have HRN : Hid (R = none) := HBad.out (.inr (fun hc => by
                    have := hc.2.2
                    rw [hla2, bne_iff_ne] at this
                    exact this (UInt8.toNat_inj.1 c4)))
                  clear HBad HStep HSz hla2 c4
                  go_wp2
                  go_ret
                  exact ⟨_, x3, true, [], rfl, HR3.out.set1 _, hk3.trans (Kept.set _ _ _ _), World.ownsRow_nil .., stp_types_bad _ _ _ (.inr (HRR.out.trans HRN.out)), fun e => by cases e⟩
                · have hne : ((sB[n - 1].toNat : Int) == 0) = false := by rw [beq_eq_false_iff_ne]; omega
                  have HT := Hid.mk (HStep.out rfl ⟨c1, c3, by
                    rw [hla2, bne_iff_ne]
                    intro e
                    rw [e] at c4
                    exact c4 rfl⟩)
                  have HLN3 := Hid.mk HR3.out.len
                  clear HBad HStep HSz hla2 c4
                  have hw8 : IntKind.i64.wrap (8 * (n : Int)) = ((8 * n : Nat) : Int) := by rw [IntKind.wrap_i64]; omega
                  go_wp2
                  go_loopw [3, 8] (fun lv iv wr2 => ∃ k : Nat, k ≤ 8 * n ∧ iv = .int .i64 k ∧ wr2.ownsRow W.heap.size 3 1 lv (l ++ bitsL wn sB.data.toList k).length (intsV (l ++ bitsL wn sB.data.toList k)) ∧ Below W.heap.size w3 wr2) (fun _ iv _ => 8 * n - (intOf iv).toNat)
                  case atStart => exact ⟨0, by omega, rfl, by rw [bitsL_zero, List.append_nil]; exact hrow3, Below.refl _ _⟩
                  case round =>
                    obtain ⟨k, hk, rfl, hrw, hbl4⟩ := hrel
                    have hsz4 : W.heap.size ≤ wr.heap.size := Nat.le_trans hsz3 hbl4.size
                    by_cases hlt : k < 8 * n
                    · have hidx8 : k / 8 < sB.size := by omega
                      have hbw := bit_at sB k hidx8
                      have hlb := bitsL_len wn sB.data.toList k
                      have hLL : (l ++ bitsL wn sB.data.toList k).length ≤ 70000 := by rw [List.length_append]; omega
                      have HNX := Hid.mk (bitsL_succ wn sB.data.toList k)
                      have hub := sB[k / 8].toNat_lt
                      have hkk : k < 256 := by omega
                      cases hbt : bitAt sB.data.toList k with
                      | true =>
                        rw [hbt] at hbw HNX
                        have HNL : Hid (l ++ bitsL wn sB.data.toList (k + 1) = (l ++ bitsL wn sB.data.toList k) ++ [wn * 256 + k]) := by
                          rw [Hid, HNX.out, List.append_assoc]; rfl
                        have hbit : (((sB[k / 8].toNat : Int) / 2 ^ (7 - k % 8)).tmod 2 == 1) = true := bit_int _ _ hbw.symm
                        clear hbt HNX hlb hbw
                        generalize l ++ bitsL wn sB.data.toList k = L at hrw hLL HNL
                        go_wp2_with (at_builtin; refine wpList_append_own _ rfl _ _ 48 rfl W.heap.size 3 i0 (.int .i64 0) 1 8 Tryz.underlying48 hi hz0 hz1 hz2 rfl (by decide) _ _ _ rfl (hrw.alloc _) ⟨wr.heap.size, 0, none⟩ 1 1 [.int .i64 ((256 * wn + k : Nat) : Int)] rfl rfl (cell_one_new _ _ _) (by simp [Value.oneCell']) (by unfold maxLen; omega) (by omega) (by simp; omega) ?_; intro v1 w5 hown5 hgrow5 _)
                        have hb5 : Below W.heap.size w3 w5 := (hbl4.alloc hsz4 _).grown hgrow5 (by simp; omega) (rowBaseB hrw)
                        have HOW : Hid (w5.ownsRow W.heap.size 3 1 v1 (l ++ bitsL wn sB.data.toList (k + 1)).length (intsV (l ++ bitsL wn sB.data.toList (k + 1)))) := by
                          rw [Hid, HNL.out, List.length_append, intsV, List.map_append, Nat.mul_comm wn 256]; exact hown5
                        go_wp2
                        exact ⟨⟨k + 1, by omega, by go_num, HOW.out, hb5⟩, by simp [intOf]; omega⟩
                      | false =>
                        rw [hbt] at hbw HNX
                        have HNL : Hid (l ++ bitsL wn sB.data.toList (k + 1) = l ++ bitsL wn sB.data.toList k) := by
                          rw [Hid, HNX.out]; simp
                        have hbit : (((sB[k / 8].toNat : Int) / 2 ^ (7 - k % 8)).tmod 2 == 1) = false := bit_int _ _ hbw.symm
                        clear hbt HNX hlb hbw
                        generalize l ++ bitsL wn sB.data.toList k = L at hrw hLL HNL
                        go_wp2
                        exact ⟨⟨k + 1, by omega, by go_num, by rw [HNL.out]; exact hrw, hbl4⟩, by simp [intOf]; omega⟩
                    · obtain rfl : k = 8 * n := by omega
                      have hlb := bitsL_len wn sB.data.toList (8 * n)
                      have hr5 : RR wr d x3 false := (hbl4.block d hdW).trans HR3.out
                      have HL5 := Hid.mk hr5.len
                      have hk5 : Kept d W wr := hk3.trans_below hbl4
                      have hlen5 : ((l ++ bitsL wn sB.data.toList (8 * n)).length : Int) ≤ 256 * ((wn : Int) + 1) := by rw [List.length_append]; omega
                      clear hlb
                      generalize l ++ bitsL wn sB.data.toList (8 * n) = L at hrw hlen5 HT
                      go_wp2
                      refine ⟨⟨L, wn, x3, rfl, by omega, by omega, hrw, hlen5, hr5, by omega, HT, hk5⟩, ?_⟩
                      rw [HL5.out, HLn.out]; omega
            · have HRN : Hid (R = none) := HBad.out (.inr (fun hc => c3 hc.2.1))
              clear HBad HStep HSz
              go_wp2
              go_ret
              exact ⟨_, x3, true, [], rfl, HR3.out.set1 _, hk3.trans (Kept.set _ _ _ _), World.ownsRow_nil .., stp_types_bad _ _ _ (.inr (HRR.out.trans HRN.out)), fun e => by cases e⟩
          · have HRN : Hid (R = none) := by
              cases b3 with
              | true => exact HBad.out (.inl rfl)
              | false =>
                obtain ⟨hsB, _⟩ := HSz.out rfl
                obtain rfl := ba_empty sB (by omega)
                exact HBad.out (.inr (fun hc => by have := hc.2.2; cases this))
            clear HBad HStep HSz
            go_wp2
            go_ret
            exact ⟨_, x3, true, [], rfl, HR3.out.set1 _, hk3.trans (Kept.set _ _ _ _), World.ownsRow_nil .., stp_types_bad _ _ _ (.inr (HRR.out.trans HRN.out)), fun e => by cases e⟩
        · have HRN : Hid (R = none) := HBad.out (.inr (fun hc => c1 hc.1))
          clear HBad HStep HSz
          go_wp2
          go_ret
          exact ⟨_, x3, true, [], rfl, HR3.out.set1 _, hk3.trans (Kept.set _ _ _ _), World.ownsRow_nil .., stp_types_bad _ _ _ (.inr (HRR.out.trans HRN.out)), fun e => by cases e⟩
      · obtain rfl := ba_empty x (by omega)
        have HRE := Hid.mk (tyRel_end HX.out rfl)
        obtain ⟨q, c, hv⟩ := row_as hrow
        subst hv
        go_wp2
        go_ret
        have e : typesR s = some l := HRR.out.trans HRE.out
        exact ⟨_, _, false, l, rfl, hrd, hkp, hrow, stp_types_yes e, fun _ => e⟩
end Go.Proofs.YtdhcbaennpediaaGreatDoor

/- joined: data of pieces that are put down; slices.Equal. -/
namespace Go.Proofs.YtdhcbaennpediaaGreatDoor
set_option linter.unusedVariables false
open Go.RowKit

/-- texts that lie in a row. -/
def TextsAt (W : World) (v : Value) (l : List ByteArray) : Prop := ∃ q c, v = .slice q l.length c ∧ ∀ j (h : j < l.length), ∃ g, q = some ⟨g, 0, none⟩ ∧ g < W.heap.size ∧ W.cell? ⟨g, j, none⟩ = some (.string l[j])
theorem texts_of_row {W : World} {n₀ : Nat} {e : TypeId} {v : Value} {l : List ByteArray} (h : W.ownsRow n₀ e 1 v l.length (baV l)) : TextsAt W v l := by
  obtain ⟨q, c, rfl⟩ := row_as h
  exact ⟨q, c, rfl, fun j hj => row_cell h j hj⟩
theorem ba_ne {x y : ByteArray} (h : x ≠ y) : (x.toList == y.toList) = false ∧ (x.toList != y.toList) = true := by
  have hn : ¬ x.toList = y.toList := fun e => h (ba_ext (by rw [← ByteArray.toList_eq, ← ByteArray.toList_eq]; exact e))
  exact ⟨by simpa using hn, by simpa using hn⟩

set_option maxRecDepth 100000 in
set_option maxHeartbeats 2000000 in
theorem equal_in (W : World) (va vb : Value) (a b : List ByteArray) (ha : TextsAt W va a) (hb : TextsAt W vb b) (hla : a.length ≤ 1000) (hlb : b.length ≤ 1000) :
    Calls Tryz.prog 71 #[va, vb] W fun e w' => e = .returned (.bool (decide (a = b))) ∧ Below W.heap.size W w' := by
  obtain ⟨qa, ca, rfl, hca⟩ := ha
  obtain ⟨qb, cb, rfl, hcb⟩ := hb
  have hmo : Tryz.prog.follows Departure.mixedOrders = true := by kernel_rfl
  obtain ⟨D, hDe⟩ : ∃ D, decide (a = b) = D := ⟨_, rfl⟩
  rw [hDe]
  have HDE := Hid.mk hDe
  clear hDe
  by_cases hn : a.length = b.length
  · have HCA := Hid.mk hca
    have HCB := Hid.mk hcb
    have HN := Hid.mk hn
    have hnb : ((a.length : Int) != (b.length : Int)) = false := by rw [hn]; simp
    clear hca hcb hn
    go_enter Tryz.func71, Tryz.ntmps71
    go_wp2
    go_loopw [13] (fun iv wr => ∃ m : Nat, m ≤ a.length ∧ iv = .int .i64 m ∧ Hid (a.take m = b.take m) ∧ Below W.heap.size W wr) (fun iv _ => a.length - (intOf iv).toNat)
    case atStart => exact ⟨0, Nat.zero_le _, rfl, rfl, Below.refl _ _⟩
    case round =>
      obtain ⟨m, hm, rfl, HE, hbl⟩ := hrel
      by_cases hlt : m < a.length
      · have hltb : m < b.length := by have := HN.out; omega
        obtain ⟨ga, hqa, hga, hxa⟩ := HCA.out m hlt
        obtain ⟨gb, hqb, hgb, hxb⟩ := HCB.out m hltb
        subst hqa hqb
        have cA := (hbl.cell (p := ⟨ga, m, none⟩) hga).trans hxa
        have cB := (hbl.cell (p := ⟨gb, m, none⟩) hgb).trans hxb
        have hi0 : (0 : Int) ≤ (m : Int) := by omega
        have hi1 : (m : Int) < (a.length : Int) := by omega
        have hi2 : (m : Int) < (b.length : Int) := by omega
        have HTA : Hid (a.take (m + 1) = a.take m ++ [a[m]]) := List.take_succ_eq_append_getElem hlt
        have HTB : Hid (b.take (m + 1) = b.take m ++ [b[m]]) := List.take_succ_eq_append_getElem hltb
        have HNE : Hid (a[m] ≠ b[m] → a ≠ b) := by
          intro h e
          subst e
          exact h rfl
        clear hxa hxb
        generalize a[m] = x at cA HTA HNE
        generalize b[m] = y at cB HTB HNE
        by_cases hxy : x = y
        · subst hxy
          have hs1 : (x.toList == x.toList) = true := by simp
          have hs2 : (x.toList != x.toList) = false := by simp
          have HNX : Hid (a.take (m + 1) = b.take (m + 1)) := by rw [Hid, HTA.out, HTB.out, HE.out]
          go_wp2
          go_region
          go_wp2
          exact ⟨⟨m + 1, by omega, by go_num, HNX, hbl.drew⟩, by simp [intOf]; omega⟩
        · obtain ⟨hs1, hs2⟩ := ba_ne hxy
          have HD : Hid (D = false) := by rw [Hid, ← HDE.out, decide_eq_false_iff_not]; exact HNE.out hxy
          clear hxy
          go_wp2
          go_region
          go_wp2
          go_ret
          exact ⟨by rw [HD.out]; rfl, hbl.drew⟩
      · obtain rfl : m = a.length := by omega
        have hab : a = b := by
          have := HE.out
          rw [List.take_length] at this
          rw [HN.out, List.take_length] at this
          exact this
        have HD : Hid (D = true) := by rw [Hid, ← HDE.out, decide_eq_true_iff]; exact hab
        clear hab
        go_wp2
        go_ret
        exact ⟨by rw [HD.out]; rfl, hbl⟩
  · have HD : Hid (D = false) := by rw [Hid, ← HDE.out, decide_eq_false_iff_not]; exact fun e => hn (by rw [e])
    have hnb : ((a.length : Int) != (b.length : Int)) = true := by rw [bne_iff_ne]; omega
    clear hn
    go_enter Tryz.func71, Tryz.ntmps71
    go_wp2
    go_ret
    exact ⟨by rw [HD.out]; rfl, Below.refl _ _⟩

/-- what a function that puts pieces down hands back. -/
def PutPost (R : Option (List ByteArray)) (W : World) (e : Ending) (w' : World) : Prop := (match R with
  | some ps => ∃ v, e = .returned v ∧ w'.ownsRow W.heap.size 9 1 v ps.length (baV ps)
  | none => e = .panicked mustV) ∧ Below W.heap.size W w'

set_option maxRecDepth 100000 in
theorem joined1_in (W : World) (bf bp f : Nat) (caps : Array Value) (hen : Enters f) (R : Option (List ByteArray)) (v0 : Value) (hf : W.heap[bf]? = some (.cells #[fnV f caps] 98 (0, 0))) (hp : W.heap[bp]? = some (.cells #[v0] 84 (0, 0)))
    (hput : Calls Tryz.prog f caps W fun e w' => PutPost R W e w') :
    Calls Tryz.prog 69 #[boxV bf, boxV bp] W fun e w' => WorkPost R bp W e w' := by
  have cf := box_cell hf
  have HP := Hid.mk hput
  have hent := hen
  dsimp only [Enters] at hent
  clear hput
  cases R with
  | none =>
    go_enter Tryz.func69, Tryz.ntmps69
    go_wp2_with fail
    refine HP.out.mono ?_
    rintro e w1 ⟨rfl, hb1⟩
    go_wp2
    exact ⟨rfl, ⟨rfl, hb1.block bp (box_lt hp)⟩, Kept.of_below hb1⟩
  | some ps =>
    go_enter Tryz.func69, Tryz.ntmps69
    go_wp2_with fail
    refine HP.out.mono ?_
    rintro e w1 ⟨⟨v, rfl, hrow⟩, hb1⟩
    obtain ⟨q, c, hv⟩ := row_as hrow
    subst hv
    have hp1 := (hb1.block bp (box_lt hp)).trans hp
    have cp1 := box_cell hp1
    have fp1 := box_frozen hp1
    go_wp2
    refine bodyPost_end (results_none rfl _ _ _) rfl ⟨⟨rfl, _, ?_, box_set hp1 _⟩, (Kept.of_below hb1).trans (Kept.set _ _ _ _)⟩
    exact row_kept' hrow (Kept.set _ _ _ _) (box_lt hp)

set_option maxRecDepth 100000 in
set_option maxHeartbeats 2000000 in
theorem soundJoin_in (W : World) (bf bp f : Nat) (caps : Array Value) (hen : Enters f) (R : Option (List ByteArray)) (v0 : Value) (hf : W.heap[bf]? = some (.cells #[fnV f caps] 98 (0, 0))) (hp : W.heap[bp]? = some (.cells #[v0] 84 (0, 0)))
    (hput : ∀ W', Below W.heap.size W W' → Calls Tryz.prog f caps W' fun e w' => PutPost R W' e w') :
    Calls Tryz.prog 62 #[fnV 69 #[boxV bf, boxV bp]] W fun e w' => SoundPost R bp W e w' := by
  have hmf := mkf
  have hal : ∀ o, Below W.heap.size W (W.alloc o) := fun o => (Below.refl _ _).alloc (Nat.le_refl _) o
  have HW := Hid.mk (fun (o : Obj) => joined1_in (W.alloc o) bf bp f caps hen R v0 (((hal o).block bf (box_lt hf)).trans hf) (((hal o).block bp (box_lt hp)).trans hp) (hput _ (hal o)))
  clear hput
  cases R with
  | none =>
    go_enter_defers Tryz.func62, Tryz.ntmps62
    go_wp2_with fail
    refine (HW.out _).mono ?_
    rintro e w1 ⟨⟨rfl, hb⟩, hkp⟩
    have hbox : w1.heap[W.heap.size]? = some (.cells #[.bool false] 4 (0, 0)) := (hkp.same _ (by simp) (by have := box_lt hp; omega)).trans (heap_new _ _)
    go_wp2
    refine leaves_cons (f := 79) (args := #[boxV W.heap.size]) (by simp) (by simp [go_sem]) ?_
    refine (catch_panic W.heap.size w1 false hbox []).mono ?_
    rintro e u' w2 ⟨rfl, rfl, rfl⟩
    have hbp := box_lt hp
    have hs2 := box_cell (box_set hbox (.bool false))
    simp [Leaves, settle, results, Tryz.results62, go_sem, hs2]
    refine ⟨⟨rfl, ?_⟩, kept_box hkp _⟩
    rw [Below.heap_setCell w1 ⟨W.heap.size, 0, none⟩ _ bp (show bp ≠ W.heap.size by omega), hb, alloc_old W _ bp hbp]
  | some ps =>
    go_enter_defers Tryz.func62, Tryz.ntmps62
    go_wp2_with fail
    refine (HW.out _).mono ?_
    rintro e w1 ⟨⟨rfl, v, hrow, hb⟩, hkp⟩
    have hbox : w1.heap[W.heap.size]? = some (.cells #[.bool false] 4 (0, 0)) := (hkp.same _ (by simp) (by have := box_lt hp; omega)).trans (heap_new _ _)
    have hbc := box_cell hbox
    have hbf := box_frozen hbox
    go_wp2
    refine leaves_cons (f := 79) (args := #[boxV W.heap.size]) (by simp) (by simp [go_sem]) ?_
    refine (catch_idle W.heap.size _).mono ?_
    rintro e u' w2 ⟨rfl, rfl, rfl⟩
    have hbp := box_lt hp
    have hs2 := box_cell (box_set hbox (.bool true))
    simp [Leaves, settle, results, Tryz.results62, go_sem, hs2]
    refine ⟨⟨rfl, v, ?_, ?_⟩, kept_box hkp _⟩
    · refine row_down (n₁ := (W.alloc (.cells #[.bool false] 4)).heap.size) (row_kept' hrow (Kept.set _ _ _ _) (by simp)) (by simp)
    · rw [Below.heap_setCell w1 ⟨W.heap.size, 0, none⟩ _ bp (show bp ≠ W.heap.size by omega)]; exact hb

/-- what joined makes of pieces: data, or an error's number. -/
noncomputable def joinR (k : Int) (R : Option (List ByteArray)) : Option ByteArray := match R with
  | none => none
  | some ps => if splitR k (cat ps) = some ps then some (cat ps) else none
def strOf (r : Option ByteArray) : ByteArray := r.getD ⟨#[]⟩
def errOf (r : Option ByteArray) : Int := if r.isSome then 0 else 6

set_option maxRecDepth 100000 in
set_option maxHeartbeats 2000000 in
theorem joined_in (W : World) (k : Int) (f : Nat) (caps : Array Value) (hen : Enters f) (R : Option (List ByteArray)) (hsz : ∀ ps, R = some ps → ps.length ≤ 20 ∧ (cat ps).size ≤ 1000000)
    (hput : ∀ W', Below W.heap.size W W' → Calls Tryz.prog f caps W' fun e w' => PutPost R W' e w') :
    Calls Tryz.prog 44 #[.int .i64 k, fnV f caps] W fun e w' => e = .returned (.tuple #[.string (strOf (joinR k R)), .int .i64 (errOf (joinR k R))]) ∧ Below W.heap.size W w' := by
  have hmf := mkf
  obtain ⟨W2, hW2⟩ : ∃ W2, W2 = (W.alloc (.cells #[fnV f caps] 98)).alloc (.cells #[.slice none 0 0] 84) := ⟨_, rfl⟩
  have hf2 : W2.heap[W.heap.size]? = some (.cells #[fnV f caps] 98 (0, 0)) := by
    rw [hW2, alloc_old _ _ _ (by simp)]; exact heap_new _ _
  have hp2 : W2.heap[W.heap.size + 1]? = some (.cells #[.slice none 0 0] 84 (0, 0)) := by
    rw [hW2]
    have := heap_new (W.alloc (.cells #[fnV f caps] 98)) (.cells #[.slice none 0 0] 84)
    rwa [World.size_alloc] at this
  have hsz2 : W2.heap.size = W.heap.size + 2 := by rw [hW2]; simp
  have hbl2 : Below W.heap.size W W2 := by
    rw [hW2]; exact ((Below.refl _ _).alloc (Nat.le_refl _) _).alloc (by simp) _
  have HS := Hid.mk (soundJoin_in W2 W.heap.size (W.heap.size + 1) f caps hen R _ hf2 hp2 (fun W' hb => hput W' (bth hbl2 hb hbl2.size)))
  have HP2 := Hid.mk hp2
  have HW2 := Hid.mk hW2
  have HSZ := Hid.mk hsz2
  clear hf2 hput hp2 hW2 hsz2
  cases R with
  | none =>
    go_enter Tryz.func44, Tryz.ntmps44
    go_wp2_with fail
    rw [← HW2.out]
    refine HS.out.mono ?_
    rintro e w2 ⟨⟨rfl, hb⟩, hkp⟩
    go_wp2
    go_ret2
    exact ⟨rfl, hbl2.trans (hkp.below (n := W.heap.size) (by omega) (by have := HSZ.out; omega))⟩
  | some ps =>
    obtain ⟨hpl, hcz⟩ := hsz ps rfl
    have HSP := Hid.mk (split_all k (cat ps) (by unfold maxLen; omega))
    have hjl : (Lib.join (ps.map (·.data.toList)) []).length ≤ 1000000 := by
      have h1 := hcz
      rw [← cat_join, ba_size] at h1
      exact h1
    have HJL := Hid.mk hjl
    obtain ⟨J, hJ⟩ : ∃ J, joinR k (some ps) = J := ⟨_, rfl⟩
    rw [hJ]
    have HJ := Hid.mk hJ
    clear hJ hjl hsz
    go_enter Tryz.func44, Tryz.ntmps44
    go_wp2_with fail
    rw [← HW2.out]
    refine HS.out.mono ?_
    rintro e w2 ⟨⟨rfl, v, hrow, hb⟩, hkp⟩
    obtain ⟨q, c, hv⟩ := row_as hrow
    subst hv
    have hc2 := box_cell hb
    have hbl3 : Below W.heap.size W w2 := hbl2.trans (hkp.below (n := W.heap.size) (by omega) (by have := HSZ.out; omega))
    have HJO := Hid.mk (join_row ⟨#[]⟩ hrow (by omega) (by
      show (Lib.join (ps.map (·.data.toList)) []).length ≤ _
      have := HJL.out; omega))
    have hcj : (⟨(Lib.join (ps.map (·.data.toList)) (⟨#[]⟩ : ByteArray).data.toList).toArray⟩ : ByteArray) = cat ps := by rw [← cat_join]
    rw [hcj] at HJO
    clear hcj
    go_wp2_with fail
    refine HJO.out.mono ?_
    rintro e w3 ⟨rfl, hb3⟩
    have hb4 := (hb3.block _ (box_lt hb)).trans hb
    have hc3 := box_cell hb4
    have hrow3 := row_bel hrow hb3
    have hbl4 : Below W.heap.size W w3 := bth hbl3 hb3 hbl3.size
    cases hsp : splitR k (cat ps) with
    | none =>
      rw [hsp] at HSP
      have HJN : Hid (J = none) := by rw [Hid, ← HJ.out, joinR, if_neg (by rw [hsp]; simp)]
      clear hsp
      go_wp2_with fail
      refine (HSP.out _).mono ?_
      rintro e w4 ⟨rfl, hb5⟩
      go_wp2
      go_ret2
      exact ⟨by rw [HJN.out]; rfl, bth hbl4 hb5 hbl4.size⟩
    | some qs =>
      rw [hsp] at HSP
      have hql : qs.length ≤ 20 := by
        have := ((split_iff k _ qs).1 hsp).2.2.2.len
        have := (form_len k).1
        omega
      have HJN : Hid (J = if qs = ps then some (cat ps) else none) := by
        rw [Hid, ← HJ.out, joinR, hsp]
        by_cases e : qs = ps
        · rw [if_pos e, e, if_pos rfl]
        · rw [if_neg e, if_neg (fun h => e (Option.some.inj h))]
      clear hsp
      go_wp2_with fail
      refine (HSP.out _).mono ?_
      rintro e w4 ⟨⟨v5, rfl, hrow5⟩, hb5⟩
      have hta := texts_of_row hrow5
      have htb := texts_of_row (row_bel hrow3 hb5)
      have hc5 := box_cell ((hb5.block _ (box_lt hb4)).trans hb4)
      have HEQ := Hid.mk (equal_in w4 _ _ qs ps hta htb (by omega) (by omega))
      obtain ⟨q5, c5, hv5⟩ := row_as hrow5
      subst hv5
      have hbl5 : Below W.heap.size W w4 := bth hbl4 hb5 hbl4.size
      clear hta htb
      by_cases heq : qs = ps
      · rw [if_pos heq] at HJN
        rw [show decide (qs = ps) = true by simp [heq]] at HEQ
        clear heq
        go_wp2_with fail
        refine HEQ.out.mono ?_
        rintro e w6 ⟨rfl, hb6⟩
        go_wp2
        go_ret2
        exact ⟨by rw [HJN.out]; rfl, bth hbl5 hb6 hbl5.size⟩
      · rw [if_neg heq] at HJN
        rw [show decide (qs = ps) = false by simp [heq]] at HEQ
        clear heq
        go_wp2_with fail
        refine HEQ.out.mono ?_
        rintro e w6 ⟨rfl, hb6⟩
        go_wp2
        go_ret2
        exact ⟨by rw [HJN.out]; rfl, bth hbl5 hb6 hbl5.size⟩
end Go.Proofs.YtdhcbaennpediaaGreatDoor

/- Lower, of every type. -/
namespace Go.Proofs.YtdhcbaennpediaaGreatDoor
set_option linter.unusedVariables false
open Go.RowKit

theorem low_len : ∀ (F : List PK) (xs : List ByteArray), (lowXs F xs).length = xs.length
  | [], _ => rfl
  | _ :: _, [] => rfl
  | p :: F, x :: xs => by simp [lowXs, low_len F xs]
theorem low_step : ∀ (F : List PK) (ps : List ByteArray) (m : Nat) (h : m < F.length) (h' : m < ps.length), lowXs (F.take (m + 1)) ps = (lowXs (F.take m) ps).set m (lowX F[m] ps[m])
  | [], ps, m, h, _ => by simp at h
  | p :: F, [], m, _, h' => by simp at h'
  | p :: F, x :: xs, 0, _, _ => by simp [lowXs]
  | p :: F, x :: xs, m + 1, h, h' => by
    have := low_step F xs m (by simpa using h) (by simpa using h')
    simp only [List.take_succ_cons, lowXs, List.getElem_cons_succ, List.set_cons_succ] at this ⊢
    rw [this]
theorem low_at : ∀ (F : List PK) (ps : List ByteArray) (m : Nat) (h' : m < ps.length), (lowXs (F.take m) ps)[m]? = some ps[m]
  | F, x :: xs, 0, _ => by simp [lowXs]
  | [], x :: xs, m + 1, h' => by
    rw [show lowXs (([] : List PK).take (m + 1)) (x :: xs) = x :: xs from rfl]
    exact List.getElem?_eq_getElem h'
  | p :: F, x :: xs, m + 1, h' => by
    have := low_at F xs m (by simpa using h')
    simpa [lowXs] using this
  | F, [], m, h' => by simp at h'
theorem good_at : ∀ (F : List PK) (ps : List ByteArray), AllGood F ps → ∀ (m : Nat) (h : m < F.length) (h' : m < ps.length), Good F[m] ps[m]
  | [], ps, _, m, h, _ => by simp at h
  | p :: F, [], _, m, _, h' => by simp at h'
  | p :: F, x :: xs, hg, 0, _, _ => hg.1
  | p :: F, x :: xs, hg, m + 1, h, h' => good_at F xs hg.2 m (by simpa using h) (by simpa using h')
theorem set_same {l : List ByteArray} {m : Nat} {x : ByteArray} (h : l[m]? = some x) : l.set m x = l := by
  obtain ⟨h1, h2⟩ := List.getElem?_eq_some_iff.1 h
  rw [← h2, List.set_getElem_self]

theorem row_at {W : World} {n₀ n c g : Nat} {e : TypeId} {ps : List ByteArray} (h : W.ownsRow n₀ e 1 (.slice (some ⟨g, 0, none⟩) n c) n (baV ps)) (j : Nat) (x : ByteArray) (hj : ps[j]? = some x) : W.cell? ⟨g, j, none⟩ = some (.string x) := by
  obtain ⟨hl, hx⟩ := List.getElem?_eq_some_iff.1 hj
  obtain ⟨g', hg', _, hc⟩ := row_cell h j hl
  cases hg'
  rw [hc, hx]

end Go.Proofs.YtdhcbaennpediaaGreatDoor
