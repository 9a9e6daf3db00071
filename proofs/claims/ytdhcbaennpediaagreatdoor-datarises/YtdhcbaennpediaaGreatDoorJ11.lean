/- Texts of this proof, joined: DTyEnc, DNums, DRise, DJoin, DLower2, DKey. -/
import Derived.Test.YtdhcbaennpediaaGreatDoorJ10
import Derived.BigRegion
import Derived.Laws.AppendOwnNone
import Derived.Test.YtdhcbaennpediaaGreatDoorJ9
import Derived.Deep.RegionHeld3
/- bytesOfTypes: a list of types as bytes. -/
namespace Go.Proofs.YtdhcbaennpediaaGreatDoor
set_option linter.unusedVariables false
open Go.RowKit

theorem addTail_eq (p0 bs : List UInt8) (c0 : UInt8) (b k : Nat) (hb : b = p0.length + 1) : addTail (p0 ++ c0 :: bs) b k = p0 ++ UInt8.ofNat (setB bs (k % 256)).length :: setB bs (k % 256) := by
  subst hb
  have hm : k % 256 % 8 = k % 8 := by omega
  have e2 : (p0 ++ c0 :: bs) ++ List.replicate (p0.length + 1 + k % 256 / 8 + 1 - (p0 ++ c0 :: bs).length) (0 : UInt8) = p0 ++ c0 :: padB bs (k % 256) := by
    rw [padB, List.append_assoc, List.cons_append, List.length_append, List.length_cons]
    rw [show p0.length + 1 + k % 256 / 8 + 1 - (p0.length + (bs.length + 1)) = k % 256 / 8 + 1 - bs.length by omega]
  have e3 : (p0 ++ c0 :: padB bs (k % 256)).getD (p0.length + 1 + k % 256 / 8) 0 = bs.getD (k % 256 / 8) 0 := by
    rw [← padB_get bs (k % 256) (k % 256 / 8), List.getD_eq_getElem?_getD, List.getD_eq_getElem?_getD, List.getElem?_append_right (by omega), show p0.length + 1 + k % 256 / 8 - p0.length = k % 256 / 8 + 1 by omega, List.getElem?_cons_succ]
  have e4 : (p0 ++ c0 :: padB bs (k % 256)).set (p0.length + 1 + k % 256 / 8) (UInt8.ofNat ((bs.getD (k % 256 / 8) 0).toNat ||| 2 ^ (7 - k % 8))) = p0 ++ c0 :: setB bs (k % 256) := by
    rw [List.set_append_right _ _ (by omega), show p0.length + 1 + k % 256 / 8 - p0.length = k % 256 / 8 + 1 by omega, List.set_cons_succ, setB, hm]
  unfold addTail
  simp only
  rw [e2, e3, e4, show p0.length + 1 - 1 = p0.length by omega, List.set_append_right _ _ (Nat.le_refl _), Nat.sub_self, List.set_cons_zero]
  rw [show (p0 ++ c0 :: setB bs (k % 256)).length - (p0.length + 1) = (setB bs (k % 256)).length by simp; omega]

/-- the list in the making is that of these windows. -/
structure Enc (ws : List Win) (L : List UInt8) (b : Nat) (last : Int) : Prop where
  bytes : L = encW ws
  ok : OkW (-1) ws
  low : -1 ≤ last
  high : last ≤ 65535
  le : ∀ x ∈ tysW ws, (x : Int) ≤ last
  none : ws = [] → last = -1
  some : ∀ r p, ws = r ++ [p] → b = (encW r).length + 2 ∧ ((p.1 : Nat) : Int) = last / 256
theorem Enc.nil : Enc [] [] 0 (-1) := ⟨rfl, trivial, by omega, by omega, by simp [tysW], fun _ => rfl, fun r p h => by simp at h⟩
theorem encW_snoc (r : List Win) (p : Win) : encW (r ++ [p]) = encW r ++ UInt8.ofNat p.1 :: UInt8.ofNat p.2.length :: p.2 := by rw [encW_app]; simp [encW]
theorem encW_len : ∀ (ws : List Win) (last : Int), OkW last ws → -1 ≤ last → last ≤ 255 → ((encW ws).length : Int) ≤ 34 * (255 - last)
  | [], last, _, h, h' => by simp [encW]; omega
  | p :: r, last, ⟨h1, h2, h3, h4, h5⟩, hl, _ => by
    have := encW_len r p.1 h5 (by omega) (by omega)
    simp [encW]
    omega
theorem Enc.len {ws : List Win} {L : List UInt8} {b : Nat} {last : Int} (h : Enc ws L b last) : L.length ≤ 8704 := by
  have := encW_len ws (-1) h.ok (by omega) (by omega)
  rw [h.bytes]
  omega
theorem Enc.next {ws : List Win} {L : List UInt8} {b : Nat} {last : Int} (h : Enc ws L b last) (k : Nat) (hk : k ≤ 65535) (hl : last < (k : Int)) (b' : Nat) (hb : ∀ r p, addT ws k = r ++ [p] → b' = (encW r).length + 2 ∧ p.1 = k / 256) (L' : List UInt8) (hL : L' = encW (addT ws k)) : Enc (addT ws k) L' b' k := by
  obtain ⟨a1, a2⟩ := addT_ok ws k hk h.ok (fun x hx => by have := h.le x hx; omega)
  refine ⟨hL, a1, by omega, by omega, fun x hx => ?_, fun e => ?_, fun r p e => ?_⟩
  · rw [a2, List.mem_append] at hx
    rcases hx with hx | hx
    · have := h.le x hx; omega
    · simp only [List.mem_singleton] at hx; omega
  · rw [e] at a2
    have := congrArg List.length a2
    simp [tysW] at this
  · obtain ⟨c1, c2⟩ := hb r p e
    exact ⟨c1, by rw [c2]; omega⟩
theorem snoc_inj {r r' : List Win} {p p' : Win} (h : r ++ [p] = r' ++ [p']) : r = r' ∧ p = p' := by
  have := List.append_inj' h rfl
  exact ⟨this.1, by simpa using this.2⟩
theorem Enc.same {ws : List Win} {L : List UInt8} {b : Nat} {last : Int} (h : Enc ws L b last) (k : Nat) (hk : k ≤ 65535) (hl : last < (k : Int)) (hw : ((k / 256 : Nat) : Int) = last / 256) : 1 ≤ b ∧ b ≤ L.length ∧ Enc (addT ws k) (addTail L b k) b k := by
  have hlow := h.low
  rcases List.eq_nil_or_concat ws with rfl | ⟨r, p, rfl⟩
  · have := h.none rfl
    omega
  · rw [List.concat_eq_append] at h ⊢
    obtain ⟨hb, hp⟩ := h.some r p rfl
    have hL := h.bytes
    rw [encW_snoc] at hL
    have hpk : p.1 = k / 256 := by omega
    have ha : addT (r ++ [p]) k = r ++ [(p.1, setB p.2 (k % 256))] := by
      unfold addT
      rw [List.getLast?_concat]
      simp only
      rw [if_pos hpk, List.dropLast_concat]
    refine ⟨by omega, by rw [hL, hb]; simp, h.next k hk hl b (fun r' p' e => ?_) _ ?_⟩
    · rw [ha] at e
      obtain ⟨rfl, rfl⟩ := snoc_inj e
      exact ⟨hb, hpk⟩
    · rw [ha, encW_snoc, hL]
      have := addTail_eq (encW r ++ [UInt8.ofNat p.1]) p.2 (UInt8.ofNat p.2.length) b k (by rw [hb]; simp)
      simp only [List.append_assoc, List.cons_append, List.nil_append] at this ⊢
      exact this
theorem Enc.new {ws : List Win} {L : List UInt8} {b : Nat} {last : Int} (h : Enc ws L b last) (k : Nat) (hk : k ≤ 65535) (hl : last < (k : Int)) (hw : ¬ ((k / 256 : Nat) : Int) = last / 256) : Enc (addT ws k) (addTail (L ++ [UInt8.ofNat (k / 256), 0]) (L.length + 2) k) (L.length + 2) k := by
  have ha : addT ws k = ws ++ [(k / 256, setB [] (k % 256))] := by
    rcases List.eq_nil_or_concat ws with rfl | ⟨r, p, rfl⟩
    · rfl
    · rw [List.concat_eq_append] at h ⊢
      obtain ⟨hb, hp⟩ := h.some r p rfl
      unfold addT
      rw [List.getLast?_concat]
      simp only
      rw [if_neg (by omega)]
  refine h.next k hk hl _ (fun r' p' e => ?_) _ ?_
  · rw [ha] at e
    obtain ⟨rfl, rfl⟩ := snoc_inj e
    exact ⟨by rw [h.bytes], rfl⟩
  · rw [ha, encW_snoc, ← h.bytes]
    have := addTail_eq (L ++ [UInt8.ofNat (k / 256)]) [] 0 (L.length + 2) k (by simp)
    simp only [List.append_assoc, List.cons_append, List.nil_append] at this ⊢
    exact this

theorem add_enc (W : World) (d : Nat) (ws : List Win) (L : List UInt8) (b : Nat) (last : Int) (k : Nat) (h : TL W d L b last) (he : Enc ws L b last) (hk : k ≤ 65535) (hl : last < (k : Int)) :
    Calls Tryz.prog 74 #[boxV d, .int .i64 (k : Int)] W fun e w' => e = .returned (.tuple #[]) ∧ (∃ L' b', TL w' d L' b' k ∧ Enc (addT ws k) L' b' k) ∧ Below d W w' := by
  have hlen := he.len
  by_cases hw : ((k / 256 : Nat) : Int) = last / 256
  · obtain ⟨h1, h2, h3⟩ := he.same k hk hl hw
    refine (add_same W d L b last k h hk hl (by omega) h1 h2 hw he.low).mono ?_
    rintro e w' ⟨rfl, ht, hb⟩
    exact ⟨rfl, ⟨_, _, ht, h3⟩, hb⟩
  · refine (add_new W d L b last k h hk hl (by omega) hw he.low).mono ?_
    rintro e w' ⟨rfl, ht, hb⟩
    exact ⟨rfl, ⟨_, _, ht, he.new k hk hl hw⟩, hb⟩

/-- the windows of a list of types; none: they do not rise, or are none. -/
def encGo : List Win → Int → List Int → Option (List Win)
  | ws, _, [] => some ws
  | ws, last, k :: r => if (0 ≤ k ∧ k ≤ 65535) ∧ last < k then encGo (addT ws k.toNat) k r else none
def encR (l : List Int) : Option (List UInt8) := (encGo [] (-1) l).map encW
theorem encGo_rise : ∀ (l : List Nat) (ws : List Win) (last : Int), Rise last l → encGo ws last (l.map fun n => ((n : Nat) : Int)) = some (l.foldl addT ws)
  | [], _, _, _ => rfl
  | k :: r, ws, last, ⟨h1, h2, h3⟩ => by
    rw [List.map_cons, encGo, if_pos ⟨⟨by omega, by omega⟩, h1⟩, Int.toNat_natCast, encGo_rise r _ _ h3, List.foldl_cons]
theorem encR_rise {l : List Nat} (h : Rise (-1) l) : encR (l.map fun n => ((n : Nat) : Int)) = some (encT l) := by
  rw [encR, encGo_rise l [] (-1) h]
  rfl

def IntsAt (W : World) (v : Value) (l : List Int) : Prop := ∃ q c, v = .slice q l.length c ∧ ∀ j (h : j < l.length), ∃ g, q = some ⟨g, 0, none⟩ ∧ g < W.heap.size ∧ W.cell? ⟨g, j, none⟩ = some (.int .i64 l[j])
def TbPost (R : Option (List UInt8)) (W : World) (e : Ending) (w' : World) : Prop := (match R with
  | some l => e = .returned (.string ⟨l.toArray⟩)
  | none => e = .panicked mustV) ∧ Below W.heap.size W w'

set_option maxRecDepth 100000 in
set_option maxHeartbeats 2000000 in
theorem bytesOfTypes_in (W : World) (v : Value) (l : List Int) (hl : l.length ≤ 1000000) (hv : IntsAt W v l) :
    Calls Tryz.prog 55 #[v] W fun e w' => TbPost (encR l) W e w' := by
  obtain ⟨q, c, rfl, hc⟩ := hv
  have HC := Hid.mk hc
  obtain ⟨R, hR⟩ : ∃ R, encGo [] (-1) l = R := ⟨_, rfl⟩
  have HR := Hid.mk hR
  have hRR : encR l = R.map encW := by rw [encR, hR]
  rw [hRR]
  clear hc hR hRR
  go_enter Tryz.func55, Tryz.ntmps55
  go_wp2_with fail
  refine (newTypeList_in _).mono ?_
  rintro e w1 ⟨rfl, htl, hb1⟩
  have HTL := Hid.mk htl
  have hdl : W.heap.size < w1.heap.size := by obtain ⟨v, h, _⟩ := htl; exact box_lt h
  clear htl
  go_wp2
  go_loopw [9] (fun iv wr => ∃ (m : Nat) (ws : List Win) (L : List UInt8) (b : Nat) (last : Int), m ≤ l.length ∧ iv = .int .i64 m ∧ Hid (TL wr W.heap.size L b last) ∧ Hid (Enc ws L b last) ∧ Hid (R = encGo ws last (l.drop m)) ∧ Below W.heap.size W wr) (fun iv _ => l.length - (intOf iv).toNat)
  case atStart => exact ⟨0, [], [], 0, -1, Nat.zero_le _, rfl, HTL, Enc.nil, by rw [Hid, List.drop_zero]; exact HR.out.symm, hb1⟩
  case round =>
    obtain ⟨m, ws, L, b, last, hm, rfl, HT, HE, HX, hbl⟩ := hrel
    by_cases hlt : m < l.length
    · obtain ⟨g, hq, hg, hcg⟩ := HC.out m hlt
      subst hq
      have hcw := (hbl.cell (p := ⟨g, m, none⟩) hg).trans hcg
      have hdr : l.drop m = l[m] :: l.drop (m + 1) := List.drop_eq_getElem_cons hlt
      have HD : Hid (R = encGo ws last (l[m] :: l.drop (m + 1))) := by rw [Hid, ← hdr]; exact HX.out
      clear hdr HX hcg
      generalize l[m] = x at hcw HD
      by_cases hk : (0 ≤ x ∧ x ≤ 65535) ∧ last < x
      · obtain ⟨k, rfl⟩ : ∃ k : Nat, x = k := ⟨x.toNat, by omega⟩
        have HA := Hid.mk (add_enc wr W.heap.size ws L b last k HT.out HE.out (by omega) hk.2)
        have HN : Hid (R = encGo (addT ws k) (k : Int) (l.drop (m + 1))) := by
          rw [Hid, HD.out, encGo, if_pos hk, Int.toNat_natCast]
        clear hk HD
        go_wp2_with fail
        refine HA.out.mono ?_
        rintro e w2 ⟨rfl, ⟨L', b', ht', he'⟩, hb2⟩
        have hbl2 := hbl.trans hb2
        go_wp2
        exact ⟨⟨m + 1, addT ws k, L', b', k, by omega, by go_num, ht', he', HN, hbl2⟩, by simp [intOf]; omega⟩
      · have HA := Hid.mk (add_no wr W.heap.size L b last x HT.out hk)
        have HN : Hid (R = none) := by rw [Hid, HD.out, encGo, if_neg hk]
        clear hk HD
        go_wp2_with fail
        refine HA.out.mono ?_
        rintro e w2 ⟨rfl, rfl⟩
        go_wp2
        rw [HN.out]
        exact ⟨rfl, rfl, hbl⟩
    · obtain rfl : m = l.length := by omega
      have HN : Hid (R = some ws) := by rw [Hid, HX.out, List.drop_length]; rfl
      have HB := Hid.mk HE.out.bytes
      obtain ⟨v0, hh, hrow⟩ := HT.out
      obtain ⟨qv, cv, hqv⟩ := row_as hrow
      subst hqv
      obtain ⟨c0, f0⟩ := cells_at (v := .slice qv L.length cv) (j := 0) hh rfl
      have hcv := row_back hrow rfl rfl
      clear hh hrow
      go_wp2
      go_ret
      rw [HN.out]
      exact ⟨by rw [HB.out]; rfl, hbl⟩
end Go.Proofs.YtdhcbaennpediaaGreatDoor

/- numbers: are two lists of numbers the same? -/
namespace Go.Proofs.YtdhcbaennpediaaGreatDoor
set_option linter.unusedVariables false
open Go.RowKit

set_option maxRecDepth 100000 in
set_option maxHeartbeats 2000000 in
theorem numbers_in (W : World) (va vb : Value) (a b : List Int) (ha : IntsAt W va a) (hb : IntsAt W vb b) (hla : a.length ≤ 1000000) (hlb : b.length ≤ 1000000) :
    Calls Tryz.prog 20 #[va, vb] W fun e w' => e = .returned (.bool (decide (a = b))) ∧ Below W.heap.size W w' := by
  obtain ⟨qa, ca, rfl, hca⟩ := ha
  obtain ⟨qb, cb, rfl, hcb⟩ := hb
  have hmo : Tryz.prog.follows Departure.mixedOrders = true := by kernel_rfl
  obtain ⟨D, hDe⟩ : ∃ D, decide (a = b) = D := ⟨_, rfl⟩
  rw [hDe]
  have HDE := Hid.mk hDe
  clear hDe
  by_cases hn : a.length = b.length
  · have HCA := Hid.mk hca
    have HCB := Hid.mk hcb
    have HN := Hid.mk hn
    have hnb : ((a.length : Int) != (b.length : Int)) = false := by rw [hn]; simp
    clear hca hcb hn
    go_enter Tryz.func20, Tryz.ntmps20
    go_wp2
    go_loopw [5] (fun iv wr => ∃ m : Nat, m ≤ a.length ∧ iv = .int .i64 m ∧ Hid (a.take m = b.take m) ∧ Below W.heap.size W wr) (fun iv _ => a.length - (intOf iv).toNat)
    case atStart => exact ⟨0, Nat.zero_le _, rfl, rfl, Below.refl _ _⟩
    case round =>
      obtain ⟨m, hm, rfl, HE, hbl⟩ := hrel
      by_cases hlt : m < a.length
      · have hltb : m < b.length := by have := HN.out; omega
        obtain ⟨ga, hqa, hga, hxa⟩ := HCA.out m hlt
        obtain ⟨gb, hqb, hgb, hxb⟩ := HCB.out m hltb
        subst hqa hqb
        have cA := (hbl.cell (p := ⟨ga, m, none⟩) hga).trans hxa
        have cB := (hbl.cell (p := ⟨gb, m, none⟩) hgb).trans hxb
        have hi0 : (0 : Int) ≤ (m : Int) := by omega
        have hi1 : (m : Int) < (a.length : Int) := by omega
        have hi2 : (m : Int) < (b.length : Int) := by omega
        have HTA : Hid (a.take (m + 1) = a.take m ++ [a[m]]) := List.take_succ_eq_append_getElem hlt
        have HTB : Hid (b.take (m + 1) = b.take m ++ [b[m]]) := List.take_succ_eq_append_getElem hltb
        have HNE : Hid (a[m] ≠ b[m] → a ≠ b) := by
          intro h e
          subst e
          exact h rfl
        clear hxa hxb
        generalize a[m] = x at cA HTA HNE
        generalize b[m] = y at cB HTB HNE
        by_cases hxy : x = y
        · subst hxy
          have hs2 : (x != x) = false := by simp
          have HNX : Hid (a.take (m + 1) = b.take (m + 1)) := by rw [Hid, HTA.out, HTB.out, HE.out]
          go_wp2
          go_region
          go_wp2
          exact ⟨⟨m + 1, by omega, by go_num, HNX, hbl.drew⟩, by simp [intOf]; omega⟩
        · have hs2 : (x != y) = true := by simpa using hxy
          have HD : Hid (D = false) := by rw [Hid, ← HDE.out, decide_eq_false_iff_not]; exact HNE.out hxy
          clear hxy
          go_wp2
          go_region
          go_wp2
          go_ret
          exact ⟨by rw [HD.out]; rfl, hbl.drew⟩
      · obtain rfl : m = a.length := by omega
        have hab : a = b := by
          have := HE.out
          rw [List.take_length] at this
          rw [HN.out, List.take_length] at this
          exact this
        have HD : Hid (D = true) := by rw [Hid, ← HDE.out, decide_eq_true_iff]; exact hab
        clear hab
        go_wp2
        go_ret
        exact ⟨by rw [HD.out]; rfl, hbl⟩
  · have HD : Hid (D = false) := by rw [Hid, ← HDE.out, decide_eq_false_iff_not]; exact fun e => hn (by rw [e])
    have hnb : ((a.length : Int) != (b.length : Int)) = true := by rw [bne_iff_ne]; omega
    clear hn
    go_enter Tryz.func20, Tryz.ntmps20
    go_wp2
    go_ret
    exact ⟨by rw [HD.out]; rfl, Below.refl _ _⟩
end Go.Proofs.YtdhcbaennpediaaGreatDoor

/- rise: numbers of a list, each once, in order. -/
namespace Go.Proofs.YtdhcbaennpediaaGreatDoor
set_option linter.unusedVariables false
open Go.RowKit

/-- numbers that lie in a slice, or none. -/
def ISrc (W : World) (vx : Value) (xs : List Nat) : Prop := (vx = .slice none 0 0 ∧ xs = []) ∨ ∃ g off cap, vx = .slice (some ⟨g, off, none⟩) xs.length cap ∧ ∀ j (h : j < xs.length), W.cell? ⟨g, off + j, none⟩ = some (.int .i64 ((xs[j] : Nat) : Int))
theorem intsV_len (l : List Nat) : (intsV l).length = l.length := by simp [intsV]
theorem intsV_app (a b : List Nat) : intsV (a ++ b) = intsV a ++ intsV b := by simp [intsV]
theorem add_off (b o j : Nat) : (⟨b, o, none⟩ : Addr).add j = ⟨b, o + j, none⟩ := by
  cases j with
  | zero => rfl
  | succ k => simp [Addr.add]
theorem wpList_append_ints {W : World} {ops : Array Oper} {rest : List Oper} {o : Oper} {a : Act} {Q : Exit → Act → World → Prop} (hgd : o.guard = none) (s x : Operand)
    (ho : o.op = .call { callee := .builtin .append, args := #[s, x], argTypes := #[48, 48] })
    (base : Nat) (v vx : Value) (n : Nat) (xs : List Value) (ls : List Nat) (hs : a.eval s = v) (hown : W.ownsRow base 3 1 v n xs) (hx : a.eval x = vx) (hsrc : ISrc W vx ls)
    (hn : n ≤ 1000) (hl : ls.length ≤ 1000) (hbase : base ≤ W.heap.size)
    (h : ∀ v' w', w'.ownsRow base 3 1 v' (n + ls.length) (xs ++ intsV ls) → Below base W w' → wpList Tryz.prog ops Q rest (a.put o.dst v') w') : wpList Tryz.prog ops Q (o :: rest) a W := by
  obtain ⟨i0, hi, hz0, hz1, hz2⟩ := info_parts info3
  rcases hsrc with ⟨rfl, rfl⟩ | ⟨g, off, cap, rfl, hc⟩
  · refine wpList_append_own_none hgd s x 48 ho base 3 i0 1 Tryz.underlying48 hi v n xs hs hown hx ?_
    exact h v W (by simpa [intsV] using hown) (Below.refl _ _)
  · refine wpList_append_own W hgd s x 48 ho base 3 i0 (.int .i64 0) 1 8 Tryz.underlying48 hi hz0 hz1 hz2 rfl (by decide) v n xs hs hown ⟨g, off, none⟩ ls.length cap (intsV ls) hx (by rw [intsV_len]; omega) (fun j u hu => ?_) (fun u hu => ?_) (by unfold maxLen; omega) (by omega) hbase ?_
    · obtain ⟨hj, he⟩ := List.getElem?_eq_some_iff.1 hu
      have hj' : j < ls.length := by simpa [intsV] using hj
      rw [add_off, hc j hj', ← he]; simp [intsV]
    · simp only [intsV, List.mem_map] at hu
      obtain ⟨l, _, rfl⟩ := hu
      rfl
    · intro v' w' h1 h2 _
      exact h v' w' h1 ((Below.refl base W).grown h2 hbase (rowBaseB hown))

/-- the number that stands for x. -/
def riseN (x : Int) : Nat := ((if x < 0 then -(x + 1) else x) % 65536).toNat
theorem riseN_le (x : Int) : riseN x ≤ 65535 := by
  unfold riseN
  split <;> omega

theorem Rise.mem : ∀ {l : List Nat} {last : Int}, Rise last l → ∀ x ∈ l, last < (x : Int) ∧ x ≤ 65535
  | [], _, _, x, hx => by cases hx
  | k :: r, last, ⟨h1, h2, h3⟩, x, hx => by
    rcases List.mem_cons.1 hx with rfl | hx
    · exact ⟨h1, h2⟩
    · have := Rise.mem h3 x hx
      exact ⟨by omega, this.2⟩
theorem Rise.pw : ∀ {l : List Nat} {last : Int}, Rise last l → l.Pairwise (· < ·)
  | [], _, _ => List.Pairwise.nil
  | k :: r, last, ⟨h1, h2, h3⟩ => List.pairwise_cons.2 ⟨fun x hx => by have := (Rise.mem h3 x hx).1; omega, Rise.pw h3⟩
/-- a number more, at its place. -/
theorem rise_ins {l : List Nat} (h : Rise (-1) l) (n at' : Nat) (hn : n ≤ 65535) (ha : at' ≤ l.length) (h1 : ∀ j (hj : j < l.length), j < at' → l[j] < n) (h2 : ∀ (hj : at' < l.length), n < l[at']) : Rise (-1) (l.take at' ++ [n] ++ l.drop at') := by
  have hp := Rise.pw h
  refine rise_of _ _ ?_ (fun x hx => ?_)
  · rw [List.append_assoc, List.pairwise_append]
    refine ⟨hp.sublist (List.take_sublist _ _), ?_, fun a ha' b hb => ?_⟩
    · rw [List.singleton_append, List.pairwise_cons]
      refine ⟨fun b hb => ?_, hp.sublist (List.drop_sublist _ _)⟩
      obtain ⟨j, hj, rfl⟩ := List.getElem_of_mem hb
      rw [List.length_drop] at hj
      rw [List.getElem_drop]
      have h0 := h2 (by omega)
      rcases Nat.eq_zero_or_pos j with rfl | hj0
      · simpa using h0
      · have := List.pairwise_iff_getElem.1 hp at' (at' + j) (by omega) (by omega) (by omega)
        omega
    · obtain ⟨j, hj, rfl⟩ := List.getElem_of_mem ha'
      rw [List.length_take] at hj
      rw [List.getElem_take]
      have hjn := h1 j (by omega) (by omega)
      rw [List.singleton_append, List.mem_cons] at hb
      rcases hb with rfl | hb
      · exact hjn
      · obtain ⟨i, hi, rfl⟩ := List.getElem_of_mem hb
        rw [List.length_drop] at hi
        rw [List.getElem_drop]
        exact List.pairwise_iff_getElem.1 hp j (at' + i) (by omega) (by omega) (by omega)
  · rw [List.append_assoc, List.mem_append, List.singleton_append, List.mem_cons] at hx
    rcases hx with hx | rfl | hx
    · exact Rise.mem h x (List.mem_of_mem_take hx)
    · exact ⟨by omega, hn⟩
    · exact Rise.mem h x (List.mem_of_mem_drop hx)
end Go.Proofs.YtdhcbaennpediaaGreatDoor

/- joined: data of pieces that are put down; slices.Equal. -/
namespace Go.Proofs.YtdhcbaennpediaaGreatDoor
set_option linter.unusedVariables false
open Go.RowKit

/-- texts that lie in a row. -/
def TextsAt (W : World) (v : Value) (l : List ByteArray) : Prop := ∃ q c, v = .slice q l.length c ∧ ∀ j (h : j < l.length), ∃ g, q = some ⟨g, 0, none⟩ ∧ g < W.heap.size ∧ W.cell? ⟨g, j, none⟩ = some (.string l[j])
theorem texts_of_row {W : World} {n₀ : Nat} {e : TypeId} {v : Value} {l : List ByteArray} (h : W.ownsRow n₀ e 1 v l.length (baV l)) : TextsAt W v l := by
  obtain ⟨q, c, rfl⟩ := row_as h
  exact ⟨q, c, rfl, fun j hj => row_cell h j hj⟩
theorem ba_ne {x y : ByteArray} (h : x ≠ y) : (x.toList == y.toList) = false ∧ (x.toList != y.toList) = true := by
  have hn : ¬ x.toList = y.toList := fun e => h (ba_ext (by rw [← ByteArray.toList_eq, ← ByteArray.toList_eq]; exact e))
  exact ⟨by simpa using hn, by simpa using hn⟩

set_option maxRecDepth 100000 in
set_option maxHeartbeats 2000000 in
theorem equal_in (W : World) (va vb : Value) (a b : List ByteArray) (ha : TextsAt W va a) (hb : TextsAt W vb b) (hla : a.length ≤ 1000) (hlb : b.length ≤ 1000) :
    Calls Tryz.prog 71 #[va, vb] W fun e w' => e = .returned (.bool (decide (a = b))) ∧ Below W.heap.size W w' := by
  obtain ⟨qa, ca, rfl, hca⟩ := ha
  obtain ⟨qb, cb, rfl, hcb⟩ := hb
  have hmo : Tryz.prog.follows Departure.mixedOrders = true := by kernel_rfl
  obtain ⟨D, hDe⟩ : ∃ D, decide (a = b) = D := ⟨_, rfl⟩
  rw [hDe]
  have HDE := Hid.mk hDe
  clear hDe
  by_cases hn : a.length = b.length
  · have HCA := Hid.mk hca
    have HCB := Hid.mk hcb
    have HN := Hid.mk hn
    have hnb : ((a.length : Int) != (b.length : Int)) = false := by rw [hn]; simp
    clear hca hcb hn
    go_enter Tryz.func71, Tryz.ntmps71
    go_wp2
    go_loopw [13] (fun iv wr => ∃ m : Nat, m ≤ a.length ∧ iv = .int .i64 m ∧ Hid (a.take m = b.take m) ∧ Below W.heap.size W wr) (fun iv _ => a.length - (intOf iv).toNat)
    case atStart => exact ⟨0, Nat.zero_le _, rfl, rfl, Below.refl _ _⟩
    case round =>
      obtain ⟨m, hm, rfl, HE, hbl⟩ := hrel
      by_cases hlt : m < a.length
      · have hltb : m < b.length := by have := HN.out; omega
        obtain ⟨ga, hqa, hga, hxa⟩ := HCA.out m hlt
        obtain ⟨gb, hqb, hgb, hxb⟩ := HCB.out m hltb
        subst hqa hqb
        have cA := (hbl.cell (p := ⟨ga, m, none⟩) hga).trans hxa
        have cB := (hbl.cell (p := ⟨gb, m, none⟩) hgb).trans hxb
        have hi0 : (0 : Int) ≤ (m : Int) := by omega
        have hi1 : (m : Int) < (a.length : Int) := by omega
        have hi2 : (m : Int) < (b.length : Int) := by omega
        have HTA : Hid (a.take (m + 1) = a.take m ++ [a[m]]) := List.take_succ_eq_append_getElem hlt
        have HTB : Hid (b.take (m + 1) = b.take m ++ [b[m]]) := List.take_succ_eq_append_getElem hltb
        have HNE : Hid (a[m] ≠ b[m] → a ≠ b) := by
          intro h e
          subst e
          exact h rfl
        clear hxa hxb
        generalize a[m] = x at cA HTA HNE
        generalize b[m] = y at cB HTB HNE
        by_cases hxy : x = y
        · subst hxy
          have hs1 : (x.toList == x.toList) = true := by simp
          have hs2 : (x.toList != x.toList) = false := by simp
          have HNX : Hid (a.take (m + 1) = b.take (m + 1)) := by rw [Hid, HTA.out, HTB.out, HE.out]
          go_wp2
          go_region
          go_wp2
          exact ⟨⟨m + 1, by omega, by go_num, HNX, hbl.drew⟩, by simp [intOf]; omega⟩
        · obtain ⟨hs1, hs2⟩ := ba_ne hxy
          have HD : Hid (D = false) := by rw [Hid, ← HDE.out, decide_eq_false_iff_not]; exact HNE.out hxy
          clear hxy
          go_wp2
          go_region
          go_wp2
          go_ret
          exact ⟨by rw [HD.out]; rfl, hbl.drew⟩
      · obtain rfl : m = a.length := by omega
        have hab : a = b := by
          have := HE.out
          rw [List.take_length] at this
          rw [HN.out, List.take_length] at this
          exact this
        have HD : Hid (D = true) := by rw [Hid, ← HDE.out, decide_eq_true_iff]; exact hab
        clear hab
        go_wp2
        go_ret
        exact ⟨by rw [HD.out]; rfl, hbl⟩
  · have HD : Hid (D = false) := by rw [Hid, ← HDE.out, decide_eq_false_iff_not]; exact fun e => hn (by rw [e])
    have hnb : ((a.length : Int) != (b.length : Int)) = true := by rw [bne_iff_ne]; omega
    clear hn
    go_enter Tryz.func71, Tryz.ntmps71
    go_wp2
    go_ret
    exact ⟨by rw [HD.out]; rfl, Below.refl _ _⟩

/-- what a function that puts pieces down hands back. -/
def PutPost (R : Option (List ByteArray)) (W : World) (e : Ending) (w' : World) : Prop := (match R with
  | some ps => ∃ v, e = .returned v ∧ w'.ownsRow W.heap.size 9 1 v ps.length (baV ps)
  | none => e = .panicked mustV) ∧ Below W.heap.size W w'

set_option maxRecDepth 100000 in
theorem joined1_in (W : World) (bf bp f : Nat) (caps : Array Value) (hen : Enters f) (R : Option (List ByteArray)) (v0 : Value) (hf : W.heap[bf]? = some (.cells #[fnV f caps] 98 (0, 0))) (hp : W.heap[bp]? = some (.cells #[v0] 84 (0, 0)))
    (hput : Calls Tryz.prog f caps W fun e w' => PutPost R W e w') :
    Calls Tryz.prog 69 #[boxV bf, boxV bp] W fun e w' => WorkPost R bp W e w' := by
  have cf := box_cell hf
  have HP := Hid.mk hput
  have hent := hen
  dsimp only [Enters] at hent
  clear hput
  cases R with
  | none =>
    go_enter Tryz.func69, Tryz.ntmps69
    go_wp2_with fail
    refine HP.out.mono ?_
    rintro e w1 ⟨rfl, hb1⟩
    go_wp2
    exact ⟨rfl, ⟨rfl, hb1.block bp (box_lt hp)⟩, Kept.of_below hb1⟩
  | some ps =>
    go_enter Tryz.func69, Tryz.ntmps69
    go_wp2_with fail
    refine HP.out.mono ?_
    rintro e w1 ⟨⟨v, rfl, hrow⟩, hb1⟩
    obtain ⟨q, c, hv⟩ := row_as hrow
    subst hv
    have hp1 := (hb1.block bp (box_lt hp)).trans hp
    have cp1 := box_cell hp1
    have fp1 := box_frozen hp1
    go_wp2
    refine bodyPost_end (results_none rfl _ _ _) rfl ⟨⟨rfl, _, ?_, box_set hp1 _⟩, (Kept.of_below hb1).trans (Kept.set _ _ _ _)⟩
    exact row_kept' hrow (Kept.set _ _ _ _) (box_lt hp)

set_option maxRecDepth 100000 in
set_option maxHeartbeats 2000000 in
theorem soundJoin_in (W : World) (bf bp f : Nat) (caps : Array Value) (hen : Enters f) (R : Option (List ByteArray)) (v0 : Value) (hf : W.heap[bf]? = some (.cells #[fnV f caps] 98 (0, 0))) (hp : W.heap[bp]? = some (.cells #[v0] 84 (0, 0)))
    (hput : ∀ W', Below W.heap.size W W' → Calls Tryz.prog f caps W' fun e w' => PutPost R W' e w') :
    Calls Tryz.prog 62 #[fnV 69 #[boxV bf, boxV bp]] W fun e w' => SoundPost R bp W e w' := by
  have hmf := mkf
  have hal : ∀ o, Below W.heap.size W (W.alloc o) := fun o => (Below.refl _ _).alloc (Nat.le_refl _) o
  have HW := Hid.mk (fun (o : Obj) => joined1_in (W.alloc o) bf bp f caps hen R v0 (((hal o).block bf (box_lt hf)).trans hf) (((hal o).block bp (box_lt hp)).trans hp) (hput _ (hal o)))
  clear hput
  cases R with
  | none =>
    go_enter_defers Tryz.func62, Tryz.ntmps62
    go_wp2_with fail
    refine (HW.out _).mono ?_
    rintro e w1 ⟨⟨rfl, hb⟩, hkp⟩
    have hbox : w1.heap[W.heap.size]? = some (.cells #[.bool false] 4 (0, 0)) := (hkp.same _ (by simp) (by have := box_lt hp; omega)).trans (heap_new _ _)
    go_wp2
    refine leaves_cons (f := 79) (args := #[boxV W.heap.size]) (by simp) (by simp [go_sem]) ?_
    refine (catch_panic W.heap.size w1 false hbox []).mono ?_
    rintro e u' w2 ⟨rfl, rfl, rfl⟩
    have hbp := box_lt hp
    have hs2 := box_cell (box_set hbox (.bool false))
    simp [Leaves, settle, results, Tryz.results62, go_sem, hs2]
    refine ⟨⟨rfl, ?_⟩, kept_box hkp _⟩
    rw [Below.heap_setCell w1 ⟨W.heap.size, 0, none⟩ _ bp (show bp ≠ W.heap.size by omega), hb, alloc_old W _ bp hbp]
  | some ps =>
    go_enter_defers Tryz.func62, Tryz.ntmps62
    go_wp2_with fail
    refine (HW.out _).mono ?_
    rintro e w1 ⟨⟨rfl, v, hrow, hb⟩, hkp⟩
    have hbox : w1.heap[W.heap.size]? = some (.cells #[.bool false] 4 (0, 0)) := (hkp.same _ (by simp) (by have := box_lt hp; omega)).trans (heap_new _ _)
    have hbc := box_cell hbox
    have hbf := box_frozen hbox
    go_wp2
    refine leaves_cons (f := 79) (args := #[boxV W.heap.size]) (by simp) (by simp [go_sem]) ?_
    refine (catch_idle W.heap.size _).mono ?_
    rintro e u' w2 ⟨rfl, rfl, rfl⟩
    have hbp := box_lt hp
    have hs2 := box_cell (box_set hbox (.bool true))
    simp [Leaves, settle, results, Tryz.results62, go_sem, hs2]
    refine ⟨⟨rfl, v, ?_, ?_⟩, kept_box hkp _⟩
    · refine row_down (n₁ := (W.alloc (.cells #[.bool false] 4)).heap.size) (row_kept' hrow (Kept.set _ _ _ _) (by simp)) (by simp)
    · rw [Below.heap_setCell w1 ⟨W.heap.size, 0, none⟩ _ bp (show bp ≠ W.heap.size by omega)]; exact hb

/-- what joined makes of pieces: data, or an error's number. -/
noncomputable def joinR (k : Int) (R : Option (List ByteArray)) : Option ByteArray := match R with
  | none => none
  | some ps => if splitR k (cat ps) = some ps then some (cat ps) else none
def strOf (r : Option ByteArray) : ByteArray := r.getD ⟨#[]⟩
def errOf (r : Option ByteArray) : Int := if r.isSome then 0 else 6

set_option maxRecDepth 100000 in
set_option maxHeartbeats 2000000 in
theorem joined_in (W : World) (k : Int) (f : Nat) (caps : Array Value) (hen : Enters f) (R : Option (List ByteArray)) (hsz : ∀ ps, R = some ps → ps.length ≤ 20 ∧ (cat ps).size ≤ 1000000)
    (hput : ∀ W', Below W.heap.size W W' → Calls Tryz.prog f caps W' fun e w' => PutPost R W' e w') :
    Calls Tryz.prog 44 #[.int .i64 k, fnV f caps] W fun e w' => e = .returned (.tuple #[.string (strOf (joinR k R)), .int .i64 (errOf (joinR k R))]) ∧ Below W.heap.size W w' := by
  have hmf := mkf
  obtain ⟨W2, hW2⟩ : ∃ W2, W2 = (W.alloc (.cells #[fnV f caps] 98)).alloc (.cells #[.slice none 0 0] 84) := ⟨_, rfl⟩
  have hf2 : W2.heap[W.heap.size]? = some (.cells #[fnV f caps] 98 (0, 0)) := by
    rw [hW2, alloc_old _ _ _ (by simp)]; exact heap_new _ _
  have hp2 : W2.heap[W.heap.size + 1]? = some (.cells #[.slice none 0 0] 84 (0, 0)) := by
    rw [hW2]
    have := heap_new (W.alloc (.cells #[fnV f caps] 98)) (.cells #[.slice none 0 0] 84)
    rwa [World.size_alloc] at this
  have hsz2 : W2.heap.size = W.heap.size + 2 := by rw [hW2]; simp
  have hbl2 : Below W.heap.size W W2 := by
    rw [hW2]; exact ((Below.refl _ _).alloc (Nat.le_refl _) _).alloc (by simp) _
  have HS := Hid.mk (soundJoin_in W2 W.heap.size (W.heap.size + 1) f caps hen R _ hf2 hp2 (fun W' hb => hput W' (bth hbl2 hb hbl2.size)))
  have HP2 := Hid.mk hp2
  have HW2 := Hid.mk hW2
  have HSZ := Hid.mk hsz2
  clear hf2 hput hp2 hW2 hsz2
  cases R with
  | none =>
    go_enter Tryz.func44, Tryz.ntmps44
    go_wp2_with fail
    rw [← HW2.out]
    refine HS.out.mono ?_
    rintro e w2 ⟨⟨rfl, hb⟩, hkp⟩
    go_wp2
    go_ret2
    exact ⟨rfl, hbl2.trans (hkp.below (n := W.heap.size) (by omega) (by have := HSZ.out; omega))⟩
  | some ps =>
    obtain ⟨hpl, hcz⟩ := hsz ps rfl
    have HSP := Hid.mk (split_all k (cat ps) (by unfold maxLen; omega))
    have hjl : (Lib.join (ps.map (·.data.toList)) []).length ≤ 1000000 := by
      have h1 := hcz
      rw [← cat_join, ba_size] at h1
      exact h1
    have HJL := Hid.mk hjl
    obtain ⟨J, hJ⟩ : ∃ J, joinR k (some ps) = J := ⟨_, rfl⟩
    rw [hJ]
    have HJ := Hid.mk hJ
    clear hJ hjl hsz
    go_enter Tryz.func44, Tryz.ntmps44
    go_wp2_with fail
    rw [← HW2.out]
    refine HS.out.mono ?_
    rintro e w2 ⟨⟨rfl, v, hrow, hb⟩, hkp⟩
    obtain ⟨q, c, hv⟩ := row_as hrow
    subst hv
    have hc2 := box_cell hb
    have hbl3 : Below W.heap.size W w2 := hbl2.trans (hkp.below (n := W.heap.size) (by omega) (by have := HSZ.out; omega))
    have HJO := Hid.mk (join_row ⟨#[]⟩ hrow (by omega) (by
      show (Lib.join (ps.map (·.data.toList)) []).length ≤ _
      have := HJL.out; omega))
    have hcj : (⟨(Lib.join (ps.map (·.data.toList)) (⟨#[]⟩ : ByteArray).data.toList).toArray⟩ : ByteArray) = cat ps := by rw [← cat_join]
    rw [hcj] at HJO
    clear hcj
    go_wp2_with fail
    refine HJO.out.mono ?_
    rintro e w3 ⟨rfl, hb3⟩
    have hb4 := (hb3.block _ (box_lt hb)).trans hb
    have hc3 := box_cell hb4
    have hrow3 := row_bel hrow hb3
    have hbl4 : Below W.heap.size W w3 := bth hbl3 hb3 hbl3.size
    cases hsp : splitR k (cat ps) with
    | none =>
      rw [hsp] at HSP
      have HJN : Hid (J = none) := by rw [Hid, ← HJ.out, joinR, if_neg (by rw [hsp]; simp)]
      clear hsp
      go_wp2_with fail
      refine (HSP.out _).mono ?_
      rintro e w4 ⟨rfl, hb5⟩
      go_wp2
      go_ret2
      exact ⟨by rw [HJN.out]; rfl, bth hbl4 hb5 hbl4.size⟩
    | some qs =>
      rw [hsp] at HSP
      have hql : qs.length ≤ 20 := by
        have := ((split_iff k _ qs).1 hsp).2.2.2.len
        have := (form_len k).1
        omega
      have HJN : Hid (J = if qs = ps then some (cat ps) else none) := by
        rw [Hid, ← HJ.out, joinR, hsp]
        by_cases e : qs = ps
        · rw [if_pos e, e, if_pos rfl]
        · rw [if_neg e, if_neg (fun h => e (Option.some.inj h))]
      clear hsp
      go_wp2_with fail
      refine (HSP.out _).mono ?_
      rintro e w4 ⟨⟨v5, rfl, hrow5⟩, hb5⟩
      have hta := texts_of_row hrow5
      have htb := texts_of_row (row_bel hrow3 hb5)
      have hc5 := box_cell ((hb5.block _ (box_lt hb4)).trans hb4)
      have HEQ := Hid.mk (equal_in w4 _ _ qs ps hta htb (by omega) (by omega))
      obtain ⟨q5, c5, hv5⟩ := row_as hrow5
      subst hv5
      have hbl5 : Below W.heap.size W w4 := bth hbl4 hb5 hbl4.size
      clear hta htb
      by_cases heq : qs = ps
      · rw [if_pos heq] at HJN
        rw [show decide (qs = ps) = true by simp [heq]] at HEQ
        clear heq
        go_wp2_with fail
        refine HEQ.out.mono ?_
        rintro e w6 ⟨rfl, hb6⟩
        go_wp2
        go_ret2
        exact ⟨by rw [HJN.out]; rfl, bth hbl5 hb6 hbl5.size⟩
      · rw [if_neg heq] at HJN
        rw [show decide (qs = ps) = false by simp [heq]] at HEQ
        clear heq
        go_wp2_with fail
        refine HEQ.out.mono ?_
        rintro e w6 ⟨rfl, hb6⟩
        go_wp2
        go_ret2
        exact ⟨by rw [HJN.out]; rfl, bth hbl5 hb6 hbl5.size⟩
end Go.Proofs.YtdhcbaennpediaaGreatDoor

/- Lower, of every type. -/
namespace Go.Proofs.YtdhcbaennpediaaGreatDoor
set_option linter.unusedVariables false
open Go.RowKit

theorem low_len : ∀ (F : List PK) (xs : List ByteArray), (lowXs F xs).length = xs.length
  | [], _ => rfl
  | _ :: _, [] => rfl
  | p :: F, x :: xs => by simp [lowXs, low_len F xs]
theorem low_step : ∀ (F : List PK) (ps : List ByteArray) (m : Nat) (h : m < F.length) (h' : m < ps.length), lowXs (F.take (m + 1)) ps = (lowXs (F.take m) ps).set m (lowX F[m] ps[m])
  | [], ps, m, h, _ => by simp at h
  | p :: F, [], m, _, h' => by simp at h'
  | p :: F, x :: xs, 0, _, _ => by simp [lowXs]
  | p :: F, x :: xs, m + 1, h, h' => by
    have := low_step F xs m (by simpa using h) (by simpa using h')
    simp only [List.take_succ_cons, lowXs, List.getElem_cons_succ, List.set_cons_succ] at this ⊢
    rw [this]
theorem low_at : ∀ (F : List PK) (ps : List ByteArray) (m : Nat) (h' : m < ps.length), (lowXs (F.take m) ps)[m]? = some ps[m]
  | F, x :: xs, 0, _ => by simp [lowXs]
  | [], x :: xs, m + 1, h' => by
    rw [show lowXs (([] : List PK).take (m + 1)) (x :: xs) = x :: xs from rfl]
    exact List.getElem?_eq_getElem h'
  | p :: F, x :: xs, m + 1, h' => by
    have := low_at F xs m (by simpa using h')
    simpa [lowXs] using this
  | F, [], m, h' => by simp at h'
theorem good_at : ∀ (F : List PK) (ps : List ByteArray), AllGood F ps → ∀ (m : Nat) (h : m < F.length) (h' : m < ps.length), Good F[m] ps[m]
  | [], ps, _, m, h, _ => by simp at h
  | p :: F, [], _, m, _, h' => by simp at h'
  | p :: F, x :: xs, hg, 0, _, _ => hg.1
  | p :: F, x :: xs, hg, m + 1, h, h' => good_at F xs hg.2 m (by simpa using h) (by simpa using h')
theorem set_same {l : List ByteArray} {m : Nat} {x : ByteArray} (h : l[m]? = some x) : l.set m x = l := by
  obtain ⟨h1, h2⟩ := List.getElem?_eq_some_iff.1 h
  rw [← h2, List.set_getElem_self]

theorem row_at {W : World} {n₀ n c g : Nat} {e : TypeId} {ps : List ByteArray} (h : W.ownsRow n₀ e 1 (.slice (some ⟨g, 0, none⟩) n c) n (baV ps)) (j : Nat) (x : ByteArray) (hj : ps[j]? = some x) : W.cell? ⟨g, j, none⟩ = some (.string x) := by
  obtain ⟨hl, hx⟩ := List.getElem?_eq_some_iff.1 hj
  obtain ⟨g', hg', _, hc⟩ := row_cell h j hl
  cases hg'
  rw [hc, hx]

end Go.Proofs.YtdhcbaennpediaaGreatDoor

/- DNSKEY: taken apart, and put together. -/
namespace Go.Proofs.YtdhcbaennpediaaGreatDoor
set_option linter.unusedVariables false
open Go.RowKit

theorem row_lit (W : World) (ps : List ByteArray) (h : ps.length ≤ maxLen) (h0 : 0 < ps.length) : (W.alloc (.cells (baV ps).toArray 9)).ownsRow W.heap.size 9 1 (.slice (some ⟨W.heap.size, 0, none⟩) ps.length ps.length) ps.length (baV ps) := by
  refine ⟨by simp [baV], .inr ⟨W.heap.size, ps.length, (baV ps).toArray, rfl, Nat.le_refl _, heap_new _ _, Nat.le_refl _, h, by simp [baV], ?_⟩⟩
  rw [Nat.mul_one, List.toList_toArray, List.take_of_length_le (by simp [baV])]

set_option maxRecDepth 100000 in
set_option maxHeartbeats 4000000 in
theorem putKey_in (n0 n1 n2 : Nat) (s3 : ByteArray) (h0 : n0 < 65536) (h1 : n1 < 256) (h2 : n2 < 256) (h3 : s3.size ≤ 2000) (W : World) (xb : Nat) (hx : W.heap[xb]? = some (.cells #[.int .i64 ((n0 : Nat) : Int), .int .i64 ((n1 : Nat) : Int), .int .i64 ((n2 : Nat) : Int), .string s3] 37 (0, 0))) :
    Calls Tryz.prog 52 #[boxV xb] W fun e w' => PutPost (some [⟨(bytesB n0 2).toArray⟩, ⟨(bytesB n1 1).toArray⟩, ⟨(bytesB n2 1).toArray⟩, s3]) W e w' := by
  have hmo : Tryz.prog.follows Departure.mixedOrders = true := by kernel_rfl
  have HL : Hid (∀ (G : Prop) (A B : World), A.heap[xb]? = some (.cells #[.int .i64 ((n0 : Nat) : Int), .int .i64 ((n1 : Nat) : Int), .int .i64 ((n2 : Nat) : Int), .string s3] 37 (0, 0)) → Below W.heap.size W A → Below A.heap.size A B → (B.heap[xb]? = some (.cells #[.int .i64 ((n0 : Nat) : Int), .int .i64 ((n1 : Nat) : Int), .int .i64 ((n2 : Nat) : Int), .string s3] 37 (0, 0)) → Below W.heap.size W B → B.cell? ⟨xb, 0, none⟩ = some (.int .i64 ((n0 : Nat) : Int)) → B.cell? ⟨xb, 1, none⟩ = some (.int .i64 ((n1 : Nat) : Int)) → B.cell? ⟨xb, 2, none⟩ = some (.int .i64 ((n2 : Nat) : Int)) → B.cell? ⟨xb, 3, none⟩ = some (.string s3) → G) → G) := by
    intro G A B hA hW hB hG
    have hB' := (hB.block xb (box_lt hA)).trans hA
    exact hG hB' (bth hW hB hW.size) (cells_at hB' rfl).1 (cells_at hB' rfl).1 (cells_at hB' rfl).1 (cells_at hB' rfl).1
  have c0 := (cells_at (v := .int .i64 ((n0 : Nat) : Int)) (j := 0) hx rfl).1
  have c1 := (cells_at (v := .int .i64 ((n1 : Nat) : Int)) (j := 1) hx rfl).1
  have c2 := (cells_at (v := .int .i64 ((n2 : Nat) : Int)) (j := 2) hx rfl).1
  have c3 := (cells_at (v := .string s3) (j := 3) hx rfl).1
  have HB0 := Hid.mk (bytes2_yes n0 h0)
  generalize (⟨(bytesB n0 2).toArray⟩ : ByteArray) = q0 at HB0 ⊢
  have HB1 := Hid.mk (bytes1_yes n1 h1)
  generalize (⟨(bytesB n1 1).toArray⟩ : ByteArray) = q1 at HB1 ⊢
  have HB2 := Hid.mk (bytes1_yes n2 h2)
  generalize (⟨(bytesB n2 1).toArray⟩ : ByteArray) = q2 at HB2 ⊢
  have X0 : W.drew.heap[xb]? = some (.cells #[.int .i64 ((n0 : Nat) : Int), .int .i64 ((n1 : Nat) : Int), .int .i64 ((n2 : Nat) : Int), .string s3] 37 (0, 0)) := hx
  have B0 : Below W.heap.size W W.drew := (Below.refl _ _).drew
  clear hx
  go_enter Tryz.func52, Tryz.ntmps52
  go_wp2
  go_region_held3 (fun w' => w'.cell? ⟨xb, 0, none⟩ = some (.int .i64 ((n0 : Nat) : Int)) ∧ w'.cell? ⟨xb, 1, none⟩ = some (.int .i64 ((n1 : Nat) : Int)) ∧ w'.cell? ⟨xb, 2, none⟩ = some (.int .i64 ((n2 : Nat) : Int)) ∧ w'.cell? ⟨xb, 3, none⟩ = some (.string s3)) (first | ((repeat' apply And.intro) <;> assumption) | go_keep)
    (first | (have hck := X2; clear hck; go_at_call 46; refine (HB2.out _).mono ?_; rintro e x3 ⟨rfl, y3⟩; refine HL.out _ _ x3 X2 B2 y3 ?_; intro X3 B3 d0_3 d1_3 d2_3 d3_3) | (have hck := X1; clear hck; go_at_call 46; refine (HB1.out _).mono ?_; rintro e x2 ⟨rfl, y2⟩; refine HL.out _ _ x2 X1 B1 y2 ?_; intro X2 B2 d0_2 d1_2 d2_2 d3_2) | (have hck := X0; clear hck; go_at_call 46; refine (HB0.out _).mono ?_; rintro e x1 ⟨rfl, y1⟩; refine HL.out _ _ x1 X0 B0 y1 ?_; intro X1 B1 d0_1 d1_1 d2_1 d3_1))
  have hsm := B3.size
  go_wp2
  go_ret
  exact ⟨⟨_, rfl, row_down (row_lit x3 [q0, q1, q2, s3] (by unfold maxLen; simp) (by simp)) hsm⟩, B3.alloc hsm _⟩

set_option maxRecDepth 100000 in
theorem ofKey_in (n0 n1 n2 : Nat) (s3 : ByteArray) (h0 : n0 < 65536) (h1 : n1 < 256) (h2 : n2 < 256) (h3 : s3.size ≤ 2000) (W : World) :
    Calls Tryz.prog 25 #[.agg #[.int .i64 ((n0 : Nat) : Int), .int .i64 ((n1 : Nat) : Int), .int .i64 ((n2 : Nat) : Int), .string s3]] W fun e w' => e = .returned (.tuple #[.string (strOf (joinR 48 (some [⟨(bytesB n0 2).toArray⟩, ⟨(bytesB n1 1).toArray⟩, ⟨(bytesB n2 1).toArray⟩, s3]))), .int .i64 (errOf (joinR 48 (some [⟨(bytesB n0 2).toArray⟩, ⟨(bytesB n1 1).toArray⟩, ⟨(bytesB n2 1).toArray⟩, s3])))]) ∧ Below W.heap.size W w' := by
  have hmf := mkf
  have hbw : Below W.heap.size W (W.alloc (.cells #[.int .i64 ((n0 : Nat) : Int), .int .i64 ((n1 : Nat) : Int), .int .i64 ((n2 : Nat) : Int), .string s3] 37)) := (Below.refl _ _).alloc (Nat.le_refl _) _
  have HJ := Hid.mk (joined_in (W.alloc (.cells #[.int .i64 ((n0 : Nat) : Int), .int .i64 ((n1 : Nat) : Int), .int .i64 ((n2 : Nat) : Int), .string s3] 37)) 48 52 #[boxV W.heap.size] (enters_by Tryz.func52 (by kernel_rfl) rfl) (some [⟨(bytesB n0 2).toArray⟩, ⟨(bytesB n1 1).toArray⟩, ⟨(bytesB n2 1).toArray⟩, s3]) (fun ps e => by
      cases e
      refine ⟨by simp, ?_⟩
      simp only [cat, app_size, ba_size, bytesB_len, List.length_nil]
      have : (⟨#[]⟩ : ByteArray).size = 0 := rfl
      omega) (fun W' hb => putKey_in n0 n1 n2 s3 h0 h1 h2 h3 W' W.heap.size ((hb.block _ (by simp)).trans (heap_new _ _))))
  generalize joinR 48 (some [⟨(bytesB n0 2).toArray⟩, ⟨(bytesB n1 1).toArray⟩, ⟨(bytesB n2 1).toArray⟩, s3]) = J at HJ ⊢
  go_enter Tryz.func25, Tryz.ntmps25
  go_wp2_with fail
  refine HJ.out.mono ?_
  rintro e w1 ⟨rfl, hb1⟩
  go_wp2
  go_ret2
  exact ⟨rfl, bth hbw hb1 hbw.size⟩

def TakeKey (d : ByteArray) (v : Value) (er : Int) : Prop := ∃ (n0 n1 n2 : Nat) (s3 : ByteArray), v = .agg #[.int .i64 ((n0 : Nat) : Int), .int .i64 ((n1 : Nat) : Int), .int .i64 ((n2 : Nat) : Int), .string s3] ∧ (n0 < 65536 ∧ n1 < 256 ∧ n2 < 256 ∧ s3.size ≤ 2000) ∧ (er = 0 → joinR 48 (some [⟨(bytesB n0 2).toArray⟩, ⟨(bytesB n1 1).toArray⟩, ⟨(bytesB n2 1).toArray⟩, s3]) = some d) ∧ (er = 0 ∨ (er = 6 ∧ splitR 48 d = none ∧ v = .agg #[.int .i64 0, .int .i64 0, .int .i64 0, .string ⟨#[]⟩]))
theorem takeKey_ok (d p0 p1 p2 p3 : ByteArray) (h : splitR 48 d = some [p0, p1, p2, p3]) : TakeKey d (.agg #[.int .i64 ((numB p0.data.toList : Nat) : Int), .int .i64 ((numB p1.data.toList : Nat) : Int), .int .i64 ((numB p2.data.toList : Nat) : Int), .string p3]) 0 ∧ (p0.size ≤ 7 ∧ p1.size ≤ 7 ∧ p2.size ≤ 7 ∧ p3.size ≤ 2000) := by
  obtain ⟨hk, hs, hd, hg⟩ := (split_iff 48 d _).1 h
  have hg' : p0.size = 2 ∧ p1.size = 1 ∧ p2.size = 1 ∧ 0 < p3.size ∧ True := hg
  have hcs : p0.size + p1.size + p2.size + p3.size ≤ 2000 := by
    rw [hd] at hs
    simp only [cat, app_size] at hs
    have : (⟨#[]⟩ : ByteArray).size = 0 := rfl
    omega
  have e0 : (⟨(bytesB (numB p0.data.toList) 2).toArray⟩ : ByteArray) = p0 := by
    apply ba_ext
    have := bytesB_num p0.data.toList (by rw [size_list]; omega)
    rw [size_list, show p0.size = 2 by omega] at this
    exact this
  have e1 : (⟨(bytesB (numB p1.data.toList) 1).toArray⟩ : ByteArray) = p1 := by
    apply ba_ext
    have := bytesB_num p1.data.toList (by rw [size_list]; omega)
    rw [size_list, show p1.size = 1 by omega] at this
    exact this
  have e2 : (⟨(bytesB (numB p2.data.toList) 1).toArray⟩ : ByteArray) = p2 := by
    apply ba_ext
    have := bytesB_num p2.data.toList (by rw [size_list]; omega)
    rw [size_list, show p2.size = 1 by omega] at this
    exact this
  have l0 : numB p0.data.toList < 65536 := by
    have := numB_lt p0.data.toList
    rw [size_list, show p0.size = 2 by omega] at this
    simpa using this
  have l1 : numB p1.data.toList < 256 := by
    have := numB_lt p1.data.toList
    rw [size_list, show p1.size = 1 by omega] at this
    simpa using this
  have l2 : numB p2.data.toList < 256 := by
    have := numB_lt p2.data.toList
    rw [size_list, show p2.size = 1 by omega] at this
    simpa using this
  refine ⟨⟨numB p0.data.toList, numB p1.data.toList, numB p2.data.toList, p3, rfl, ⟨l0, l1, l2, by omega⟩, fun _ => ?_, .inl rfl⟩, by omega, by omega, by omega, by omega⟩
  rw [e0, e1, e2, joinR, ← hd, h]
  exact if_pos rfl
set_option maxRecDepth 100000 in
set_option maxHeartbeats 4000000 in
theorem takeKey_in (d : ByteArray) (hm : d.size ≤ maxLen) (W : World) :
    Calls Tryz.prog 12 #[.string d] W fun e w' => (∃ v er, e = .returned (.tuple #[v, .int .i64 er]) ∧ TakeKey d v er) ∧ Below W.heap.size W w' := by
  have HS := Hid.mk (split_all 48 d hm)
  have hmo : Tryz.prog.follows Departure.mixedOrders = true := by kernel_rfl
  have HN := Hid.mk number_in
  cases hsp : splitR 48 d with
  | none =>
    rw [hsp] at HS
    have HSP := Hid.mk hsp
    clear hsp
    go_enter Tryz.func12, Tryz.ntmps12
    go_wp2_with fail
    refine (HS.out _).mono ?_
    rintro e w1 ⟨rfl, hb1⟩
    have hbx := (hb1.block _ (by simp)).trans (heap_new W (.cells #[.int .i64 0, .int .i64 0, .int .i64 0, .string ⟨#[]⟩] 37))
    obtain ⟨a0, f0⟩ := cells_at (v := .int .i64 0) (j := 0) hbx rfl
    obtain ⟨a1, f1⟩ := cells_at (v := .int .i64 0) (j := 1) hbx rfl
    obtain ⟨a2, f2⟩ := cells_at (v := .int .i64 0) (j := 2) hbx rfl
    obtain ⟨a3, f3⟩ := cells_at (v := .string ⟨#[]⟩) (j := 3) hbx rfl
    have HBX := Hid.mk hbx
    clear hbx
    go_wp2
    have hfin : (((((w1.setCell ⟨W.heap.size, 0, none⟩ (.int .i64 0)).setCell ⟨W.heap.size, 1, none⟩ (.int .i64 0)).setCell ⟨W.heap.size, 2, none⟩ (.int .i64 0)).setCell ⟨W.heap.size, 3, none⟩ (.string ⟨#[]⟩))).heap[W.heap.size]? = some (.cells #[.int .i64 0, .int .i64 0, .int .i64 0, .string ⟨#[]⟩] 37 (0, 0)) := cells_put (j := 3) (cells_put (j := 2) (cells_put (j := 1) (cells_put (j := 0) (HBX.out) (.int .i64 0)) (.int .i64 0)) (.int .i64 0)) (.string ⟨#[]⟩)
    refine bodyPost_ret (v := .tuple #[.agg #[.int .i64 0, .int .i64 0, .int .i64 0, .string ⟨#[]⟩], .int .i64 6]) (by simp [results, Tryz.results12, go_sem, (cells_at (v := .int .i64 0) (j := 0) hfin rfl).1, (cells_at (v := .int .i64 0) (j := 1) hfin rfl).1, (cells_at (v := .int .i64 0) (j := 2) hfin rfl).1, (cells_at (v := .string ⟨#[]⟩) (j := 3) hfin rfl).1]) rfl ⟨⟨_, _, rfl, 0, 0, 0, ⟨#[]⟩, rfl, ⟨by decide, by decide, by decide, by decide⟩, (fun h => by cases h), .inr ⟨rfl, HSP.out, rfl⟩⟩, ?_⟩
    exact (((((((Below.refl _ _).alloc (Nat.le_refl _) _).trans (hb1.mono (by simp)))).setCell (p := ⟨W.heap.size, 0, none⟩) (Nat.le_refl _) _).setCell (p := ⟨W.heap.size, 1, none⟩) (Nat.le_refl _) _).setCell (p := ⟨W.heap.size, 2, none⟩) (Nat.le_refl _) _).setCell (p := ⟨W.heap.size, 3, none⟩) (Nat.le_refl _) _
  | some ps =>
    obtain ⟨p0, p1, p2, p3, hps⟩ : ∃ p0 p1 p2 p3, ps = [p0, p1, p2, p3] := by
      have hl := ((split_iff 48 d ps).1 hsp).2.2.2.len
      match ps, hl with
      | [p0, p1, p2, p3], _ => exact ⟨_, _, _, _, rfl⟩
    subst hps
    obtain ⟨hT, z0, z1, z2, z3⟩ := takeKey_ok d p0 p1 p2 p3 hsp
    rw [hsp] at HS
    clear hsp
    have HN0 := Hid.mk (number_in p0 z0)
    generalize numB p0.data.toList = m0 at HN0 hT
    have HN1 := Hid.mk (number_in p1 z1)
    generalize numB p1.data.toList = m1 at HN1 hT
    have HN2 := Hid.mk (number_in p2 z2)
    generalize numB p2.data.toList = m2 at HN2 hT
    have HT := Hid.mk hT
    clear hT
    go_enter Tryz.func12, Tryz.ntmps12
    go_wp2_with fail
    refine (HS.out _).mono ?_
    rintro e w1 ⟨⟨v, rfl, hrow⟩, hb1⟩
    obtain ⟨q, c, hv⟩ := row_as hrow
    subst hv
    obtain ⟨g, hq, _, _⟩ := row_cell hrow 0 (by simp)
    subst hq
    obtain ⟨_, _, hgb⟩ := row_frozen (j := 0) hrow (by simp)
    simp only [World.size_alloc] at hgb
    have hgne : g ≠ W.heap.size := by omega
    have hgne2 : W.heap.size ≠ g := by omega
    have r0 : w1.cell? ⟨g, 0, none⟩ = some (.string p0) := row_at hrow 0 p0 rfl
    have r1 : w1.cell? ⟨g, 1, none⟩ = some (.string p1) := row_at hrow 1 p1 rfl
    have r2 : w1.cell? ⟨g, 2, none⟩ = some (.string p2) := row_at hrow 2 p2 rfl
    have r3 : w1.cell? ⟨g, 3, none⟩ = some (.string p3) := row_at hrow 3 p3 rfl
    have hbx := (hb1.block _ (by simp)).trans (heap_new W (.cells #[.int .i64 0, .int .i64 0, .int .i64 0, .string ⟨#[]⟩] 37))
    obtain ⟨a0, f0⟩ := cells_at (v := .int .i64 0) (j := 0) hbx rfl
    obtain ⟨a1, f1⟩ := cells_at (v := .int .i64 0) (j := 1) hbx rfl
    obtain ⟨a2, f2⟩ := cells_at (v := .int .i64 0) (j := 2) hbx rfl
    obtain ⟨a3, f3⟩ := cells_at (v := .string ⟨#[]⟩) (j := 3) hbx rfl
    have HBX := Hid.mk hbx
    have mk0 : True := trivial
    clear hbx hrow
    go_wp2
    go_region_held3 (fun w' => w'.cell? ⟨g, 0, none⟩ = some (.string p0) ∧ w'.cell? ⟨g, 1, none⟩ = some (.string p1) ∧ w'.cell? ⟨g, 2, none⟩ = some (.string p2) ∧ w'.cell? ⟨g, 3, none⟩ = some (.string p3)) (first | ((repeat' apply And.intro) <;> assumption) | go_keep)
      (first | (have hck := mk2; clear hck; go_at_call 37; refine (HN2.out _).mono ?_; rintro e x3 ⟨rfl, rfl⟩; have mk3 : True := trivial) | (have hck := mk1; clear hck; go_at_call 37; refine (HN1.out _).mono ?_; rintro e x2 ⟨rfl, rfl⟩; have mk2 : True := trivial) | (have hck := mk0; clear hck; go_at_call 37; refine (HN0.out _).mono ?_; rintro e x1 ⟨rfl, rfl⟩; have mk1 : True := trivial))
    go_wp2
    have hfin : (((((w1.setCell ⟨W.heap.size, 0, none⟩ (.int .i64 ((m0 : Nat) : Int))).setCell ⟨W.heap.size, 1, none⟩ (.int .i64 ((m1 : Nat) : Int))).setCell ⟨W.heap.size, 2, none⟩ (.int .i64 ((m2 : Nat) : Int))).setCell ⟨W.heap.size, 3, none⟩ (.string p3))).drew.heap[W.heap.size]? = some (.cells #[.int .i64 ((m0 : Nat) : Int), .int .i64 ((m1 : Nat) : Int), .int .i64 ((m2 : Nat) : Int), .string p3] 37 (0, 0)) := cells_put (j := 3) (cells_put (j := 2) (cells_put (j := 1) (cells_put (j := 0) (HBX.out) (.int .i64 ((m0 : Nat) : Int))) (.int .i64 ((m1 : Nat) : Int))) (.int .i64 ((m2 : Nat) : Int))) (.string p3)
    refine bodyPost_ret (v := .tuple #[.agg #[.int .i64 ((m0 : Nat) : Int), .int .i64 ((m1 : Nat) : Int), .int .i64 ((m2 : Nat) : Int), .string p3], .int .i64 0]) (by simp [results, Tryz.results12, go_sem, (cells_at (v := .int .i64 ((m0 : Nat) : Int)) (j := 0) hfin rfl).1, (cells_at (v := .int .i64 ((m1 : Nat) : Int)) (j := 1) hfin rfl).1, (cells_at (v := .int .i64 ((m2 : Nat) : Int)) (j := 2) hfin rfl).1, (cells_at (v := .string p3) (j := 3) hfin rfl).1]) rfl ⟨⟨_, _, rfl, HT.out⟩, ?_⟩
    exact ((((((((Below.refl _ _).alloc (Nat.le_refl _) _).trans (hb1.mono (by simp)))).setCell (p := ⟨W.heap.size, 0, none⟩) (Nat.le_refl _) _).setCell (p := ⟨W.heap.size, 1, none⟩) (Nat.le_refl _) _).setCell (p := ⟨W.heap.size, 2, none⟩) (Nat.le_refl _) _).setCell (p := ⟨W.heap.size, 3, none⟩) (Nat.le_refl _) _).drew

end Go.Proofs.YtdhcbaennpediaaGreatDoor
