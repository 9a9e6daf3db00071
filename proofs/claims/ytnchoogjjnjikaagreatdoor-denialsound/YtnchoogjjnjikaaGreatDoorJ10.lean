/- Texts of this proof, joined: DTyEnc, DNsec, ZTy, Shared, Under, Kin. -/
import Derived.Test.YtnchoogjjnjikaaGreatDoorJ9
import Derived.Deep.RegionHeld3
import Derived.Deep.QuietTactic
import Derived.BigQuiet
import Derived.Test.YtnchoogjjnjikaaGreatDoorJ2
/- bytesOfTypes: a list of types as bytes. -/
namespace Go.Proofs.YtnchoogjjnjikaaGreatDoor
set_option linter.unusedVariables false
open Go.RowKit
theorem addTail_eq (p0 bs : List UInt8) (c0 : UInt8) (b k : Nat) (hb : b = p0.length + 1) : addTail (p0 ++ c0 :: bs) b k = p0 ++ UInt8.ofNat (setB bs (k % 256)).length :: setB bs (k % 256) := by
  subst hb
  have hm : k % 256 % 8 = k % 8 := by omega
  have e2 : (p0 ++ c0 :: bs) ++ List.replicate (p0.length + 1 + k % 256 / 8 + 1 - (p0 ++ c0 :: bs).length) (0 : UInt8) = p0 ++ c0 :: padB bs (k % 256) := by
    rw [padB, List.append_assoc, List.cons_append, List.length_append, List.length_cons]
    rw [show p0.length + 1 + k % 256 / 8 + 1 - (p0.length + (bs.length + 1)) = k % 256 / 8 + 1 - bs.length by omega]
  have e3 : (p0 ++ c0 :: padB bs (k % 256)).getD (p0.length + 1 + k % 256 / 8) 0 = bs.getD (k % 256 / 8) 0 := by
    rw [← padB_get bs (k % 256) (k % 256 / 8), List.getD_eq_getElem?_getD, List.getD_eq_getElem?_getD, List.getElem?_append_right (by omega), show p0.length + 1 + k % 256 / 8 - p0.length = k % 256 / 8 + 1 by omega, List.getElem?_cons_succ]
  have e4 : (p0 ++ c0 :: padB bs (k % 256)).set (p0.length + 1 + k % 256 / 8) (UInt8.ofNat ((bs.getD (k % 256 / 8) 0).toNat ||| 2 ^ (7 - k % 8))) = p0 ++ c0 :: setB bs (k % 256) := by
    rw [List.set_append_right _ _ (by omega), show p0.length + 1 + k % 256 / 8 - p0.length = k % 256 / 8 + 1 by omega, List.set_cons_succ, setB, hm]
  unfold addTail
  simp only
  rw [e2, e3, e4, show p0.length + 1 - 1 = p0.length by omega, List.set_append_right _ _ (Nat.le_refl _), Nat.sub_self, List.set_cons_zero]
  rw [show (p0 ++ c0 :: setB bs (k % 256)).length - (p0.length + 1) = (setB bs (k % 256)).length by simp; omega]
structure Enc (ws : List Win) (L : List UInt8) (b : Nat) (last : Int) : Prop where
  bytes : L = encW ws
  ok : OkW (-1) ws
  low : -1 ≤ last
  high : last ≤ 65535
  le : ∀ x ∈ tysW ws, (x : Int) ≤ last
  none : ws = [] → last = -1
  some : ∀ r p, ws = r ++ [p] → b = (encW r).length + 2 ∧ ((p.1 : Nat) : Int) = last / 256
theorem Enc.nil : Enc [] [] 0 (-1) := ⟨rfl, trivial, by omega, by omega, by simp [tysW], fun _ => rfl, fun r p h => by simp at h⟩
theorem encW_snoc (r : List Win) (p : Win) : encW (r ++ [p]) = encW r ++ UInt8.ofNat p.1 :: UInt8.ofNat p.2.length :: p.2 := by rw [encW_app]; simp [encW]
theorem encW_len : ∀ (ws : List Win) (last : Int), OkW last ws → -1 ≤ last → last ≤ 255 → ((encW ws).length : Int) ≤ 34 * (255 - last)
  | [], last, _, h, h' => by simp [encW]; omega
  | p :: r, last, ⟨h1, h2, h3, h4, h5⟩, hl, _ => by
    have := encW_len r p.1 h5 (by omega) (by omega)
    simp [encW]
    omega
theorem Enc.len {ws : List Win} {L : List UInt8} {b : Nat} {last : Int} (h : Enc ws L b last) : L.length ≤ 8704 := by
  have := encW_len ws (-1) h.ok (by omega) (by omega)
  rw [h.bytes]
  omega
theorem Enc.next {ws : List Win} {L : List UInt8} {b : Nat} {last : Int} (h : Enc ws L b last) (k : Nat) (hk : k ≤ 65535) (hl : last < (k : Int)) (b' : Nat) (hb : ∀ r p, addT ws k = r ++ [p] → b' = (encW r).length + 2 ∧ p.1 = k / 256) (L' : List UInt8) (hL : L' = encW (addT ws k)) : Enc (addT ws k) L' b' k := by
  obtain ⟨a1, a2⟩ := addT_ok ws k hk h.ok (fun x hx => by have := h.le x hx; omega)
  refine ⟨hL, a1, by omega, by omega, fun x hx => ?_, fun e => ?_, fun r p e => ?_⟩
  · rw [a2, List.mem_append] at hx
    rcases hx with hx | hx
    · have := h.le x hx; omega
    · simp only [List.mem_singleton] at hx; omega
  · rw [e] at a2
    have := congrArg List.length a2
    simp [tysW] at this
  · obtain ⟨c1, c2⟩ := hb r p e
    exact ⟨c1, by rw [c2]; omega⟩
theorem snoc_inj {r r' : List Win} {p p' : Win} (h : r ++ [p] = r' ++ [p']) : r = r' ∧ p = p' := by
  have := List.append_inj' h rfl
  exact ⟨this.1, by simpa using this.2⟩
theorem Enc.same {ws : List Win} {L : List UInt8} {b : Nat} {last : Int} (h : Enc ws L b last) (k : Nat) (hk : k ≤ 65535) (hl : last < (k : Int)) (hw : ((k / 256 : Nat) : Int) = last / 256) : 1 ≤ b ∧ b ≤ L.length ∧ Enc (addT ws k) (addTail L b k) b k := by
  have hlow := h.low
  rcases List.eq_nil_or_concat ws with rfl | ⟨r, p, rfl⟩
  · have := h.none rfl
    omega
  · rw [List.concat_eq_append] at h ⊢
    obtain ⟨hb, hp⟩ := h.some r p rfl
    have hL := h.bytes
    rw [encW_snoc] at hL
    have hpk : p.1 = k / 256 := by omega
    have ha : addT (r ++ [p]) k = r ++ [(p.1, setB p.2 (k % 256))] := by
      unfold addT
      rw [List.getLast?_concat]
      simp only
      rw [if_pos hpk, List.dropLast_concat]
    refine ⟨by omega, by rw [hL, hb]; simp, h.next k hk hl b (fun r' p' e => ?_) _ ?_⟩
    · rw [ha] at e
      obtain ⟨rfl, rfl⟩ := snoc_inj e
      exact ⟨hb, hpk⟩
    · rw [ha, encW_snoc, hL]
      have := addTail_eq (encW r ++ [UInt8.ofNat p.1]) p.2 (UInt8.ofNat p.2.length) b k (by rw [hb]; simp)
      simp only [List.append_assoc, List.cons_append, List.nil_append] at this ⊢
      exact this
theorem Enc.new {ws : List Win} {L : List UInt8} {b : Nat} {last : Int} (h : Enc ws L b last) (k : Nat) (hk : k ≤ 65535) (hl : last < (k : Int)) (hw : ¬ ((k / 256 : Nat) : Int) = last / 256) : Enc (addT ws k) (addTail (L ++ [UInt8.ofNat (k / 256), 0]) (L.length + 2) k) (L.length + 2) k := by
  have ha : addT ws k = ws ++ [(k / 256, setB [] (k % 256))] := by
    rcases List.eq_nil_or_concat ws with rfl | ⟨r, p, rfl⟩
    · rfl
    · rw [List.concat_eq_append] at h ⊢
      obtain ⟨hb, hp⟩ := h.some r p rfl
      unfold addT
      rw [List.getLast?_concat]
      simp only
      rw [if_neg (by omega)]
  refine h.next k hk hl _ (fun r' p' e => ?_) _ ?_
  · rw [ha] at e
    obtain ⟨rfl, rfl⟩ := snoc_inj e
    exact ⟨by rw [h.bytes], rfl⟩
  · rw [ha, encW_snoc, ← h.bytes]
    have := addTail_eq (L ++ [UInt8.ofNat (k / 256)]) [] 0 (L.length + 2) k (by simp)
    simp only [List.append_assoc, List.cons_append, List.nil_append] at this ⊢
    exact this
theorem add_enc (W : World) (d : Nat) (ws : List Win) (L : List UInt8) (b : Nat) (last : Int) (k : Nat) (h : TL W d L b last) (he : Enc ws L b last) (hk : k ≤ 65535) (hl : last < (k : Int)) :
    Calls Tryz.prog 60 #[boxV d, .int .i64 (k : Int)] W fun e w' => e = .returned (.tuple #[]) ∧ (∃ L' b', TL w' d L' b' k ∧ Enc (addT ws k) L' b' k) ∧ Below d W w' := by
  have hlen := he.len
  by_cases hw : ((k / 256 : Nat) : Int) = last / 256
  · obtain ⟨h1, h2, h3⟩ := he.same k hk hl hw
    refine (add_same W d L b last k h hk hl (by omega) h1 h2 hw he.low).mono ?_
    rintro e w' ⟨rfl, ht, hb⟩
    exact ⟨rfl, ⟨_, _, ht, h3⟩, hb⟩
  · refine (add_new W d L b last k h hk hl (by omega) hw he.low).mono ?_
    rintro e w' ⟨rfl, ht, hb⟩
    exact ⟨rfl, ⟨_, _, ht, he.new k hk hl hw⟩, hb⟩
def encGo : List Win → Int → List Int → Option (List Win)
  | ws, _, [] => some ws
  | ws, last, k :: r => if (0 ≤ k ∧ k ≤ 65535) ∧ last < k then encGo (addT ws k.toNat) k r else none
def encR (l : List Int) : Option (List UInt8) := (encGo [] (-1) l).map encW
theorem encGo_rise : ∀ (l : List Nat) (ws : List Win) (last : Int), Rise last l → encGo ws last (l.map fun n => ((n : Nat) : Int)) = some (l.foldl addT ws)
  | [], _, _, _ => rfl
  | k :: r, ws, last, ⟨h1, h2, h3⟩ => by
    rw [List.map_cons, encGo, if_pos ⟨⟨by omega, by omega⟩, h1⟩, Int.toNat_natCast, encGo_rise r _ _ h3, List.foldl_cons]
theorem encR_rise {l : List Nat} (h : Rise (-1) l) : encR (l.map fun n => ((n : Nat) : Int)) = some (encT l) := by
  rw [encR, encGo_rise l [] (-1) h]
  rfl
def IntsAt (W : World) (v : Value) (l : List Int) : Prop := ∃ q c, v = .slice q l.length c ∧ ∀ j (h : j < l.length), ∃ g, q = some ⟨g, 0, none⟩ ∧ g < W.heap.size ∧ W.cell? ⟨g, j, none⟩ = some (.int .i64 l[j])
def TbPost (R : Option (List UInt8)) (W : World) (e : Ending) (w' : World) : Prop := (match R with
  | some l => e = .returned (.string ⟨l.toArray⟩)
  | none => e = .panicked mustV) ∧ Below W.heap.size W w'
set_option maxRecDepth 100000 in
set_option maxHeartbeats 2000000 in
theorem bytesOfTypes_in (W : World) (v : Value) (l : List Int) (hl : l.length ≤ 1000000) (hv : IntsAt W v l) :
    Calls Tryz.prog 35 #[v] W fun e w' => TbPost (encR l) W e w' := by
  obtain ⟨q, c, rfl, hc⟩ := hv
  have HC := Hid.mk hc
  obtain ⟨R, hR⟩ : ∃ R, encGo [] (-1) l = R := ⟨_, rfl⟩
  have HR := Hid.mk hR
  have hRR : encR l = R.map encW := by rw [encR, hR]
  rw [hRR]
  clear hc hR hRR
  go_enter Tryz.func35, Tryz.ntmps35
  go_wp2_with fail
  refine (newTypeList_in _).mono ?_
  rintro e w1 ⟨rfl, htl, hb1⟩
  have HTL := Hid.mk htl
  have hdl : W.heap.size < w1.heap.size := by obtain ⟨v, h, _⟩ := htl; exact box_lt h
  clear htl
  go_wp2
  go_loopw [9] (fun iv wr => ∃ (m : Nat) (ws : List Win) (L : List UInt8) (b : Nat) (last : Int), m ≤ l.length ∧ iv = .int .i64 m ∧ Hid (TL wr W.heap.size L b last) ∧ Hid (Enc ws L b last) ∧ Hid (R = encGo ws last (l.drop m)) ∧ Below W.heap.size W wr) (fun iv _ => l.length - (intOf iv).toNat)
  case atStart => exact ⟨0, [], [], 0, -1, Nat.zero_le _, rfl, HTL, Enc.nil, by rw [Hid, List.drop_zero]; exact HR.out.symm, hb1⟩
  case round =>
    obtain ⟨m, ws, L, b, last, hm, rfl, HT, HE, HX, hbl⟩ := hrel
    by_cases hlt : m < l.length
    · obtain ⟨g, hq, hg, hcg⟩ := HC.out m hlt
      subst hq
      have hcw := (hbl.cell (p := ⟨g, m, none⟩) hg).trans hcg
      have hdr : l.drop m = l[m] :: l.drop (m + 1) := List.drop_eq_getElem_cons hlt
      have HD : Hid (R = encGo ws last (l[m] :: l.drop (m + 1))) := by rw [Hid, ← hdr]; exact HX.out
      clear hdr HX hcg
      generalize l[m] = x at hcw HD
      by_cases hk : (0 ≤ x ∧ x ≤ 65535) ∧ last < x
      · obtain ⟨k, rfl⟩ : ∃ k : Nat, x = k := ⟨x.toNat, by omega⟩
        have HA := Hid.mk (add_enc wr W.heap.size ws L b last k HT.out HE.out (by omega) hk.2)
        have HN : Hid (R = encGo (addT ws k) (k : Int) (l.drop (m + 1))) := by
          rw [Hid, HD.out, encGo, if_pos hk, Int.toNat_natCast]
        clear hk HD
        go_wp2_with fail
        refine HA.out.mono ?_
        rintro e w2 ⟨rfl, ⟨L', b', ht', he'⟩, hb2⟩
        have hbl2 := hbl.trans hb2
        go_wp2
        exact ⟨⟨m + 1, addT ws k, L', b', k, by omega, by go_num, ht', he', HN, hbl2⟩, by simp [intOf]; omega⟩
      · have HA := Hid.mk (add_no wr W.heap.size L b last x HT.out hk)
        have HN : Hid (R = none) := by rw [Hid, HD.out, encGo, if_neg hk]
        clear hk HD
        go_wp2_with fail
        refine HA.out.mono ?_
        rintro e w2 ⟨rfl, rfl⟩
        go_wp2
        rw [HN.out]
        exact ⟨rfl, rfl, hbl⟩
    · obtain rfl : m = l.length := by omega
      have HN : Hid (R = some ws) := by rw [Hid, HX.out, List.drop_length]; rfl
      have HB := Hid.mk HE.out.bytes
      obtain ⟨v0, hh, hrow⟩ := HT.out
      obtain ⟨qv, cv, hqv⟩ := row_as hrow
      subst hqv
      obtain ⟨c0, f0⟩ := cells_at (v := .slice qv L.length cv) (j := 0) hh rfl
      have hcv := row_back hrow rfl rfl
      clear hh hrow
      go_wp2
      go_ret
      rw [HN.out]
      exact ⟨by rw [HB.out]; rfl, hbl⟩
end Go.Proofs.YtnchoogjjnjikaaGreatDoor
/- NSEC: taken apart, and put together. -/
namespace Go.Proofs.YtnchoogjjnjikaaGreatDoor
set_option linter.unusedVariables false
open Go.RowKit
theorem IntsAt.below {W W' : World} {v : Value} {l : List Int} (h : IntsAt W v l) (hb : Below W.heap.size W W') : IntsAt W' v l := by
  obtain ⟨q, c, hv, hc⟩ := h
  refine ⟨q, c, hv, fun j hj => ?_⟩
  obtain ⟨g, hq, hg, hx⟩ := hc j hj
  exact ⟨g, hq, Nat.lt_of_lt_of_le hg hb.size, (hb.cell (p := ⟨g, j, none⟩) hg).trans hx⟩
theorem ints_of_row {W : World} {n₀ : Nat} {v : Value} {l : List Nat} (h : W.ownsRow n₀ 3 1 v l.length (intsV l)) : IntsAt W v (l.map fun n => ((n : Nat) : Int)) := by
  obtain ⟨q, c, rfl⟩ := row_as h
  refine ⟨q, c, by simp, fun j hj => ?_⟩
  rw [List.length_map] at hj
  rcases h.2 with ⟨_, h0⟩ | ⟨g, cap, cur, hv, _, hg, _, _, _, ht⟩
  · omega
  · cases hv
    refine ⟨g, rfl, box_lt hg, ?_⟩
    have := Lib.cells_of_row (w := W) hg l.length j (.int .i64 ((l[j] : Nat) : Int)) (by rw [Nat.mul_one] at ht; rw [ht]; simp [intsV, hj])
    rw [add_at] at this
    simpa using this
theorem encGo_ok : ∀ (l : List Int) (ws ws' : List Win) (last : Int), OkW (-1) ws → (∀ x ∈ tysW ws, (x : Int) ≤ last) → encGo ws last l = some ws' → OkW (-1) ws'
  | [], ws, ws', last, h, _, e => by cases e; exact h
  | k :: r, ws, ws', last, h, hl, e => by
    rw [encGo] at e
    split at e
    · rename_i hk
      obtain ⟨a1, a2⟩ := addT_ok ws k.toNat (by omega) h (fun x hx => by have := hl x hx; omega)
      refine encGo_ok r _ ws' k a1 (fun x hx => ?_) e
      rw [a2, List.mem_append] at hx
      rcases hx with hx | hx
      · have := hl x hx; omega
      · simp only [List.mem_singleton] at hx; omega
    · cases e
theorem encR_len {l : List Int} {bs : List UInt8} (h : encR l = some bs) : bs.length ≤ 8704 := by
  rw [encR, Option.map_eq_some_iff] at h
  obtain ⟨ws, hw, rfl⟩ := h
  have := encW_len ws (-1) (encGo_ok l [] ws (-1) trivial (by simp [tysW]) hw) (by omega) (by omega)
  omega
set_option maxRecDepth 100000 in
set_option maxHeartbeats 4000000 in
theorem putNsec_in (nx : ByteArray) (v : Value) (l : List Int) (bs : List UInt8) (hl : l.length ≤ 1000000) (he : encR l = some bs) (W : World) (hv : IntsAt W v l) (xb : Nat) (hx : W.heap[xb]? = some (.cells #[.string nx, v] 50 (0, 0))) :
    Calls Tryz.prog 34 #[boxV xb] W fun e w' => PutPost (some [nx, ⟨bs.toArray⟩]) W e w' := by
  have hmo : Tryz.prog.follows Departure.mixedOrders = true := by kernel_rfl
  have HB : Hid (∀ W', Below W.heap.size W W' → Calls Tryz.prog 35 #[v] W' fun e w' => e = .returned (.string ⟨bs.toArray⟩) ∧ Below W'.heap.size W' w') := fun W' hb => by
    have := bytesOfTypes_in W' v l hl (hv.below hb)
    rw [he] at this
    exact this
  obtain ⟨q, c, hvq, _⟩ := hv
  subst hvq
  have c0 := (cells_at (v := .string nx) (j := 0) hx rfl).1
  have c1 := (cells_at (v := .slice q l.length c) (j := 1) hx rfl).1
  have HL : Hid (∀ (G : Prop) (A B : World), A.heap[xb]? = some (.cells #[.string nx, .slice q l.length c] 50 (0, 0)) → Below W.heap.size W A → Below A.heap.size A B → (Below W.heap.size W B → B.cell? ⟨xb, 0, none⟩ = some (.string nx) → B.cell? ⟨xb, 1, none⟩ = some (.slice q l.length c) → G) → G) := by
    intro G A B hA hW hB hG
    have hB' := (hB.block xb (box_lt hA)).trans hA
    exact hG (bth hW hB hW.size) (cells_at hB' rfl).1 (cells_at hB' rfl).1
  have X0 : W.drew.heap[xb]? = some (.cells #[.string nx, .slice q l.length c] 50 (0, 0)) := hx
  have B0 : Below W.heap.size W W.drew := (Below.refl _ _).drew
  generalize (⟨bs.toArray⟩ : ByteArray) = b at HB ⊢
  clear hx
  go_enter Tryz.func34, Tryz.ntmps34
  go_wp2
  go_region_held3 (fun w' => w'.cell? ⟨xb, 0, none⟩ = some (.string nx) ∧ w'.cell? ⟨xb, 1, none⟩ = some (.slice q l.length c)) (first | ((repeat' apply And.intro) <;> assumption) | go_keep)
    (first | (go_at_call 35; refine (HB.out _ B0).mono ?_; rintro e x1 ⟨rfl, y1⟩; refine HL.out _ _ x1 X0 B0 y1 ?_; intro B1 d0 d1))
  have hsm := B1.size
  go_wp2
  go_ret
  exact ⟨⟨_, rfl, row_down (row_lit x1 [nx, b] (by unfold maxLen; simp) (by simp)) hsm⟩, B1.alloc hsm _⟩
set_option maxRecDepth 100000 in
theorem ofNsec_in (nx : ByteArray) (v : Value) (l : List Int) (bs : List UInt8) (hn : nx.size ≤ 2000) (hl : l.length ≤ 1000000) (he : encR l = some bs) (W : World) (hv : IntsAt W v l) :
    Calls Tryz.prog 18 #[.agg #[.string nx, v]] W fun e w' => e = .returned (.tuple #[.string (strOf (joinR 47 (some [nx, ⟨bs.toArray⟩]))), .int .i64 (errOf (joinR 47 (some [nx, ⟨bs.toArray⟩])))]) ∧ Below W.heap.size W w' := by
  have hmf := mkf
  have hbl := encR_len he
  have hbw : Below W.heap.size W (W.alloc (.cells #[.string nx, v] 50)) := (Below.refl _ _).alloc (Nat.le_refl _) _
  have HJ := Hid.mk (joined_in (W.alloc (.cells #[.string nx, v] 50)) 47 34 #[boxV W.heap.size] (enters_by Tryz.func34 (by kernel_rfl) rfl) (some [nx, ⟨bs.toArray⟩]) (fun ps e => by
      cases e
      refine ⟨by simp, ?_⟩
      simp only [cat, app_size, ba_size, List.length_nil]
      omega) (fun W' hb => putNsec_in nx v l bs hl he W' ((hv.below hbw).below hb) W.heap.size ((hb.block _ (by simp)).trans (heap_new _ _))))
  generalize joinR 47 (some [nx, ⟨bs.toArray⟩]) = J at HJ ⊢
  obtain ⟨q, c, hvq, _⟩ := hv
  subst hvq
  go_enter Tryz.func18, Tryz.ntmps18
  go_wp2_with fail
  refine HJ.out.mono ?_
  rintro e w1 ⟨rfl, hb1⟩
  go_wp2
  go_ret2
  exact ⟨rfl, bth hbw hb1 hbw.size⟩
end Go.Proofs.YtnchoogjjnjikaaGreatDoor
/- Types in memory: has, delegated, lack. -/
namespace Go.Proofs.YtnchoogjjnjikaaGreatDoor
set_option linter.unusedVariables false
open Go.RowKit
set_option maxRecDepth 100000 in
set_option maxHeartbeats 1000000 in
theorem idx_in (W : World) (v : Value) (l : List Int) (k : Int) (hl : l.length ≤ 1000000) (h : IntsAt W v l) :
    Calls Tryz.prog 186 #[v, .int .i64 k] W fun e w' => ∃ r : Int, e = .returned (.int .i64 r) ∧ (0 ≤ r ↔ k ∈ l) ∧ w' = W := by
  obtain ⟨q, c, rfl, hc⟩ := h
  have HC := Hid.mk hc
  clear hc
  obtain ⟨n, hn⟩ : ∃ n, l.length = n := ⟨_, rfl⟩
  have HN := Hid.mk hn
  rw [hn] at hl ⊢
  clear hn
  go_enter Tryz.func186, Tryz.ntmps186
  go_wp2_with fail
  go_loopw [8] (fun iv wr => ∃ i : Nat, i ≤ n ∧ iv = .int .i64 (i : Int) ∧ wr = W ∧ Hid (∀ j, j < i → l[j]? ≠ some k)) (fun iv _ => n - (intOf iv).toNat)
  case atStart => exact ⟨0, Nat.zero_le _, rfl, rfl, fun j hj => absurd hj (Nat.not_lt_zero _)⟩
  case round =>
    obtain ⟨i, hi, rfl, rfl, hno⟩ := hrel
    by_cases hlt : i < n
    · have hil : i < l.length := by rw [HN.out]; exact hlt
      obtain ⟨g, rfl, hg, hcell⟩ := HC.out i hil
      obtain ⟨x, hx⟩ : ∃ x, l[i] = x := ⟨_, rfl⟩
      rw [hx] at hcell
      have hx? : Hid (l[i]? = some x) := by rw [Hid, List.getElem?_eq_getElem hil, hx]
      have hi' : (i : Int) < (n : Int) := by omega
      clear hil hx
      by_cases hk : k = x
      · subst hk
        have HM : Hid (k ∈ l) := List.mem_of_getElem? hx?.out
        clear hno hx?
        go_wp2
        go_ret
        exact ⟨(i : Int), rfl, ⟨fun _ => HM.out, fun _ => by omega⟩, rfl⟩
      · have e1 : (k == x) = false := by simpa using hk
        have e2 : decide (k = x) = false := by simpa using hk
        have HNo : Hid (∀ j, j < i + 1 → l[j]? ≠ some k) := fun j hj => by
          rcases Nat.lt_succ_iff_lt_or_eq.1 hj with h | h
          · exact hno j h
          · subst h
            rw [hx?.out]
            exact fun e => hk (Option.some.inj e).symm
        clear hno hx?
        go_wp2
        go_roundw
        case rel => exact ⟨i + 1, by omega, by go_num, by first | rfl | trivial, HNo⟩
        case measure => simp [intOf]; omega
    · obtain rfl : i = n := by omega
      have HM : Hid (¬ k ∈ l) := fun hm => by
        obtain ⟨j, hj⟩ := List.getElem?_of_mem hm
        have : j < l.length := (List.getElem?_eq_some_iff.1 hj).1
        exact hno j (by rw [HN.out] at this; exact this) hj
      clear hno
      go_wp2
      go_ret
      exact ⟨-1, rfl, ⟨fun h => absurd h (by decide), fun h => absurd h HM.out⟩, rfl⟩
def hasB (l : List Int) (k : Int) : Bool := decide (k ∈ l)
set_option maxRecDepth 100000 in
set_option maxHeartbeats 1000000 in
theorem cont_in (W : World) (v : Value) (l : List Int) (k : Int) (hl : l.length ≤ 1000000) (h : IntsAt W v l) :
    Calls Tryz.prog 129 #[v, .int .i64 k] W fun e w' => e = .returned (.bool (hasB l k)) ∧ w' = W := by
  have HI := Hid.mk (idx_in W v l k hl h)
  have HB : Hid (∀ r : Int, (0 ≤ r ↔ k ∈ l) → decide (0 ≤ r) = hasB l k) := fun r hr => by
    unfold hasB
    by_cases hm : k ∈ l
    · rw [decide_eq_true hm, decide_eq_true (hr.2 hm)]
    · rw [decide_eq_false hm, decide_eq_false fun h => hm (hr.1 h)]
  generalize hasB l k = D at HB ⊢
  clear h hl
  go_enter Tryz.func129, Tryz.ntmps129
  go_wp2_with fail
  refine HI.out.mono ?_
  rintro e w1 ⟨r, rfl, hr, rfl⟩
  have hd := HB.out r hr
  have HD := Hid.mk hd
  clear hr hd
  go_wp2
  go_ret
  exact ⟨by rw [← HD.out]; rfl, rfl⟩
set_option maxRecDepth 100000 in
set_option maxHeartbeats 1000000 in
theorem has_in (W : World) (v : Value) (l : List Int) (k : Int) (hl : l.length ≤ 1000000) (h : IntsAt W v l) :
    Calls Tryz.prog 100 #[v, .int .i64 k] W fun e w' => e = .returned (.bool (hasB l k)) ∧ w' = W := by
  have HI := Hid.mk (cont_in W v l k hl h)
  generalize hasB l k = D at HI ⊢
  clear h hl
  go_enter Tryz.func100, Tryz.ntmps100
  go_wp2_with fail
  refine HI.out.mono ?_
  rintro e w1 ⟨rfl, rfl⟩
  go_wp2
  go_ret
  exact ⟨rfl, rfl⟩
def delB (l : List Int) : Bool := hasB l 2 && !hasB l 6
set_option maxRecDepth 100000 in
set_option maxHeartbeats 1000000 in
theorem del_in (W : World) (v : Value) (l : List Int) (hl : l.length ≤ 1000000) (h : IntsAt W v l) :
    Calls Tryz.prog 99 #[v] W fun e w' => e = .returned (.bool (delB l)) ∧ w' = W := by
  have H2 := Hid.mk (has_in W v l 2 hl h)
  have H6 := Hid.mk (has_in W v l 6 hl h)
  unfold delB
  generalize hasB l 2 = A at H2 ⊢
  generalize hasB l 6 = B at H6 ⊢
  clear h hl
  cases A with
  | false =>
    go_enter Tryz.func99, Tryz.ntmps99
    go_wp2_with fail
    refine H2.out.mono ?_
    rintro e w1 ⟨rfl, rfl⟩
    go_wp2
    go_ret
    exact ⟨rfl, rfl⟩
  | true =>
    go_enter Tryz.func99, Tryz.ntmps99
    go_wp2_with fail
    refine H2.out.mono ?_
    rintro e w1 ⟨rfl, rfl⟩
    go_wp2_with fail
    refine H6.out.mono ?_
    rintro e w1 ⟨rfl, rfl⟩
    go_wp2
    go_ret
    exact ⟨by simp, rfl⟩
def lackB (l : List Int) (k : Int) (rt : Bool) : Bool := !hasB l k && !hasB l 5 && (if k = 43 then rt || !hasB l 6 else !delB l)
set_option maxRecDepth 100000 in
set_option maxHeartbeats 1000000 in
theorem lack_in (W : World) (v : Value) (l : List Int) (k : Int) (rt : Bool) (hl : l.length ≤ 1000000) (h : IntsAt W v l) :
    Calls Tryz.prog 96 #[v, .int .i64 k, .bool rt] W fun e w' => e = .returned (.bool (lackB l k rt)) ∧ w' = W := by
  have HK := Hid.mk (has_in W v l k hl h)
  have H5 := Hid.mk (has_in W v l 5 hl h)
  have H6 := Hid.mk (has_in W v l 6 hl h)
  have HD := Hid.mk (del_in W v l hl h)
  unfold lackB
  generalize hasB l k = A at HK ⊢
  generalize hasB l 5 = B at H5 ⊢
  generalize hasB l 6 = C at H6 ⊢
  generalize delB l = D at HD ⊢
  clear h hl
  by_cases hk : k = 43
  · subst hk
    rw [if_pos rfl]
    cases A with
    | true =>
      go_enter Tryz.func96, Tryz.ntmps96
      go_wp2_with fail
      refine HK.out.mono ?_
      rintro e w1 ⟨rfl, rfl⟩
      go_wp2
      go_ret
      exact ⟨rfl, rfl⟩
    | false =>
      go_enter Tryz.func96, Tryz.ntmps96
      go_wp2_with fail
      refine HK.out.mono ?_
      rintro e w1 ⟨rfl, rfl⟩
      go_wp2_with fail
      refine H5.out.mono ?_
      rintro e w1 ⟨rfl, rfl⟩
      cases B with
      | true =>
        go_wp2
        go_ret
        exact ⟨rfl, rfl⟩
      | false =>
        cases rt with
        | true =>
          go_wp2
          go_ret
          exact ⟨rfl, rfl⟩
        | false =>
          go_wp2_with fail
          refine H6.out.mono ?_
          rintro e w1 ⟨rfl, rfl⟩
          go_wp2
          go_ret
          exact ⟨by simp, rfl⟩
  · rw [if_neg hk]
    have e1 : (k == 43) = false := by simpa using hk
    have e2 : decide (k = 43) = false := by simpa using hk
    cases A with
    | true =>
      go_enter Tryz.func96, Tryz.ntmps96
      go_wp2_with fail
      refine HK.out.mono ?_
      rintro e w1 ⟨rfl, rfl⟩
      go_wp2
      go_ret
      exact ⟨rfl, rfl⟩
    | false =>
      go_enter Tryz.func96, Tryz.ntmps96
      go_wp2_with fail
      refine HK.out.mono ?_
      rintro e w1 ⟨rfl, rfl⟩
      go_wp2_with fail
      refine H5.out.mono ?_
      rintro e w1 ⟨rfl, rfl⟩
      cases B with
      | true =>
        go_wp2
        go_ret
        exact ⟨rfl, rfl⟩
      | false =>
        go_wp2_with fail
        refine HD.out.mono ?_
        rintro e w1 ⟨rfl, rfl⟩
        go_wp2
        go_ret
        exact ⟨by simp, rfl⟩
end Go.Proofs.YtnchoogjjnjikaaGreatDoor
/- sharedEnd: how many of the last labels of two lists are the same. -/
namespace Go.Proofs.YtnchoogjjnjikaaGreatDoor
set_option linter.unusedVariables false
open Go.RowKit
def cpl : List (List UInt8) → List (List UInt8) → Nat
  | x :: xs, y :: ys => if x = y then cpl xs ys + 1 else 0
  | _, _ => 0
def shEnd (a b : List (List UInt8)) : Nat := cpl a.reverse b.reverse
theorem cpl_nil_right (a : List (List UInt8)) : cpl a [] = 0 := by cases a <;> rfl
theorem cpl_at : ∀ (a b : List (List UInt8)) (k : Nat), k ≤ a.length → k ≤ b.length → (∀ i, i < k → a[i]? = b[i]?) → (∀ (h1 : k < a.length) (h2 : k < b.length), a[k] ≠ b[k]) → cpl a b = k
  | [], b, k, ha, hb, he, hn => by simp at ha; subst ha; rfl
  | a :: a', [], k, ha, hb, he, hn => by simp at hb; subst hb; rfl
  | a :: a', b :: b', 0, ha, hb, he, hn => by
    have := hn (by simp) (by simp)
    simp at this
    simp [cpl, this]
  | a :: a', b :: b', k + 1, ha, hb, he, hn => by
    have h0 := he 0 (by omega)
    simp at h0
    subst h0
    have := cpl_at a' b' k (by simpa using ha) (by simpa using hb) (fun i hi => by simpa using he (i + 1) (by omega)) (fun h1 h2 => hn (by simpa using h1) (by simpa using h2))
    simp [cpl, this]
theorem shEnd_at (a b : List (List UInt8)) (k : Nat) (ha : k ≤ a.length) (hb : k ≤ b.length) (he : ∀ i, i < k → ∀ (h1 : a.length - 1 - i < a.length) (h2 : b.length - 1 - i < b.length), a[a.length - 1 - i] = b[b.length - 1 - i])
    (hn : ∀ (h1 : k < a.length) (h2 : k < b.length), a[a.length - 1 - k] ≠ b[b.length - 1 - k]) : shEnd a b = k := by
  refine cpl_at _ _ k (by simpa using ha) (by simpa using hb) (fun i hi => ?_) (fun h1 h2 => ?_)
  · rw [List.getElem?_eq_getElem (by simp; omega), List.getElem?_eq_getElem (by simp; omega), List.getElem_reverse, List.getElem_reverse]
    exact congrArg some (he i hi (by omega) (by omega))
  · rw [List.getElem_reverse, List.getElem_reverse]
    exact hn (by simpa using h1) (by simpa using h2)
set_option maxHeartbeats 1000000 in
theorem sharedEnd_core (ga gb ca cb : Nat) (a b : List (List UInt8)) (w : World) (hla : a.length ≤ 255) (hlb : b.length ≤ 255)
    (hca : ∀ j (h : j < a.length), w.cell? ⟨ga, j, none⟩ = some (strV a[j])) (hcb : ∀ j (h : j < b.length), w.cell? ⟨gb, j, none⟩ = some (strV b[j])) :
    Calls Tryz.prog 30 #[.slice (some ⟨ga, 0, none⟩) a.length ca, .slice (some ⟨gb, 0, none⟩) b.length cb] w fun e w' => e = .returned (.int .i64 (shEnd a b)) ∧ ∃ n, w' = w.drewN n := by
  go_enter Tryz.func30, Tryz.ntmps30
  go_wp2
  go_loopw [5] (fun i wr => ∃ k : Nat, i = .int .i64 k ∧ k ≤ a.length ∧ k ≤ b.length ∧ (∀ i, i < k → ∀ (h1 : a.length - 1 - i < a.length) (h2 : b.length - 1 - i < b.length), a[a.length - 1 - i] = b[b.length - 1 - i]) ∧ ∃ n, wr = w.drewN n) (fun i _ => a.length - (intOf i).toNat)
  case atStart => exact ⟨0, rfl, Nat.zero_le _, Nat.zero_le _, fun i h => absurd h (by omega), 0, rfl⟩
  case round =>
    obtain ⟨k, rfl, hka, hkb, hag, n, rfl⟩ := hrel
    by_cases hlt : k < a.length
    · by_cases hlt2 : k < b.length
      · obtain ⟨x, hxl, hc1⟩ : ∃ x : ByteArray, Hid (x.data.toList = a[a.length - 1 - k]) ∧ w.cell? ⟨ga, a.length - 1 - k, none⟩ = some (.string x) := ⟨⟨(a[a.length - 1 - k]).toArray⟩, rfl, hca _ _⟩
        obtain ⟨y, hyl, hc2⟩ : ∃ y : ByteArray, Hid (y.data.toList = b[b.length - 1 - k]) ∧ w.cell? ⟨gb, b.length - 1 - k, none⟩ = some (.string y) := ⟨⟨(b[b.length - 1 - k]).toArray⟩, rfl, hcb _ _⟩
        have hw1 : IntKind.i64.wrap ((a.length : Int) - 1) = (a.length : Int) - 1 := by rw [IntKind.wrap_i64]; omega
        have hw2 : IntKind.i64.wrap ((a.length : Int) - 1 - (k : Int)) = ((a.length - 1 - k : Nat) : Int) := by rw [IntKind.wrap_i64]; omega
        have hv1 : IntKind.i64.wrap ((b.length : Int) - 1) = (b.length : Int) - 1 := by rw [IntKind.wrap_i64]; omega
        have hv2 : IntKind.i64.wrap ((b.length : Int) - 1 - (k : Int)) = ((b.length - 1 - k : Nat) : Int) := by rw [IntKind.wrap_i64]; omega
        have hb1 : a.length - 1 - k < a.length := by omega
        have hb2 : b.length - 1 - k < b.length := by omega
        by_cases heq : a[a.length - 1 - k] = b[b.length - 1 - k]
        · have hbe : (x.toList == y.toList) = true := by rw [beq_iff_eq, ByteArray.toList_eq, ByteArray.toList_eq, hxl.out, hyl.out, heq]
          have HA : Hid (∀ i, i < k + 1 → ∀ (h1 : a.length - 1 - i < a.length) (h2 : b.length - 1 - i < b.length), a[a.length - 1 - i] = b[b.length - 1 - i]) := by
            intro i hi h1 h2
            by_cases e : i = k
            · subst e; exact heq
            · exact hag i (by omega) h1 h2
          clear heq hag hca hcb
          go_wp2
          go_quiet (fail)
          go_wp2
          go_roundw
          case rel => exact ⟨k + 1, by go_num, by omega, by omega, HA.out, _, rfl⟩
          case measure => simp [intOf]; omega
        · have hbe : (x.toList == y.toList) = false := by rw [beq_eq_false_iff_ne, ByteArray.toList_eq, ByteArray.toList_eq, hxl.out, hyl.out]; exact heq
          have HF : Hid (shEnd a b = k) := shEnd_at a b k hka hkb hag (fun _ _ => heq)
          clear heq hag hca hcb
          go_wp2
          go_quiet (fail)
          go_wp2
          go_ret
          exact ⟨by rw [HF.out]; rfl, _, World.drewN_drewN _ _ _⟩
      · have hd : decide ((k : Int) < (b.length : Int)) = false := by simp; omega
        have HF : Hid (shEnd a b = k) := shEnd_at a b k hka hkb hag (fun _ h2 => absurd h2 hlt2)
        clear hag hca hcb
        go_wp2
        go_quiet (fail)
        go_wp2
        go_ret
        exact ⟨by rw [HF.out]; rfl, _, World.drewN_drewN _ _ _⟩
    · have hd : decide ((k : Int) < (a.length : Int)) = false := by simp; omega
      have HF : Hid (shEnd a b = k) := shEnd_at a b k hka hkb hag (fun h1 _ => absurd h1 hlt)
      clear hag hca hcb
      go_wp2
      go_quiet (fail)
      go_wp2
      go_ret
      exact ⟨by rw [HF.out]; rfl, _, World.drewN_drewN _ _ _⟩
theorem shEnd_nil_right (a : List (List UInt8)) : shEnd a [] = 0 := cpl_nil_right _
set_option maxHeartbeats 1000000 in
theorem sharedEnd_nilA (vb : Value) (n cb : Nat) (q : Option Addr) (w : World) (hn : n ≤ 255) :
    Calls Tryz.prog 30 #[.slice none 0 0, .slice q n cb] w fun e w' => e = .returned (.int .i64 0) ∧ ∃ n, w' = w.drewN n := by
  go_enter Tryz.func30, Tryz.ntmps30
  go_wp2
  go_loopw [5] (fun i wr => i = .int .i64 0 ∧ ∃ n, wr = w.drewN n) (fun i _ => 0)
  case atStart => exact ⟨rfl, 0, rfl⟩
  case round =>
    obtain ⟨rfl, n, rfl⟩ := hrel
    go_wp2
    go_quiet (fail)
    go_wp2
    go_ret
    exact ⟨rfl, _, World.drewN_drewN _ _ _⟩
set_option maxHeartbeats 1000000 in
theorem sharedEnd_nilB (n ca : Nat) (q : Option Addr) (w : World) (hn : n ≤ 255) :
    Calls Tryz.prog 30 #[.slice q n ca, .slice none 0 0] w fun e w' => e = .returned (.int .i64 0) ∧ ∃ n, w' = w.drewN n := by
  by_cases h0 : 0 < n
  · go_enter Tryz.func30, Tryz.ntmps30
    go_wp2
    go_loopw [5] (fun i wr => i = .int .i64 0 ∧ ∃ n, wr = w.drewN n) (fun i _ => 0)
    case atStart => exact ⟨rfl, 0, rfl⟩
    case round =>
      obtain ⟨rfl, n, rfl⟩ := hrel
      go_wp2
      go_quiet (fail)
      go_wp2
      go_ret
      exact ⟨rfl, _, World.drewN_drewN _ _ _⟩
  · obtain rfl : n = 0 := by omega
    go_enter Tryz.func30, Tryz.ntmps30
    go_wp2
    go_loopw [5] (fun i wr => i = .int .i64 0 ∧ ∃ n, wr = w.drewN n) (fun i _ => 0)
    case atStart => exact ⟨rfl, 0, rfl⟩
    case round =>
      obtain ⟨rfl, n, rfl⟩ := hrel
      go_wp2
      go_quiet (fail)
      go_wp2
      go_ret
      exact ⟨rfl, _, World.drewN_drewN _ _ _⟩
theorem sharedEnd_in (va vb : Value) (a b : List (List UInt8)) (n₀ : Nat) (w : World) (hla : a.length ≤ 255) (hlb : b.length ≤ 255) (ha : Strs n₀ w va a) (hb : Strs n₀ w vb b) :
    Calls Tryz.prog 30 #[va, vb] w fun e w' => e = .returned (.int .i64 (shEnd a b)) ∧ Below w.heap.size w w' := by
  have fin : ∀ (e : Ending) (w' : World) (m : Int), m = shEnd a b → (e = .returned (.int .i64 m) ∧ ∃ n, w' = w.drewN n) → (e = .returned (.int .i64 (shEnd a b)) ∧ Below w.heap.size w w') := by
    rintro e w' m rfl ⟨he, n, rfl⟩
    exact ⟨he, below_drewN (Below.refl _ _) n⟩
  rcases ha with ⟨rfl, rfl⟩ | ⟨ga, ca, rfl, _, hca⟩
  · rcases hb with ⟨rfl, rfl⟩ | ⟨gb, cb, rfl, _, hcb⟩
    · exact (sharedEnd_nilA (.slice none 0 0) 0 0 none w (by omega)).mono fun e w' h => fin e w' _ rfl h
    · exact (sharedEnd_nilA (.slice none 0 0) _ _ _ w hlb).mono fun e w' h => fin e w' _ rfl h
  · rcases hb with ⟨rfl, rfl⟩ | ⟨gb, cb, rfl, _, hcb⟩
    · exact (sharedEnd_nilB _ _ _ w hla).mono fun e w' h => fin e w' _ (by rw [shEnd_nil_right]; rfl) h
    · exact (sharedEnd_core ga gb ca cb a b w hla hlb hca hcb).mono fun e w' h => fin e w' _ rfl h
end Go.Proofs.YtnchoogjjnjikaaGreatDoor
/- under, Under, Equal. -/
namespace Go.Proofs.YtnchoogjjnjikaaGreatDoor
set_option linter.unusedVariables false
open Go.RowKit
theorem bthen {w w1 w2 : World} (h : Below w.heap.size w w1) (k : Below w1.heap.size w1 w2) : Below w.heap.size w w2 := h.trans (k.mono h.size)
theorem Strs.form {n₀ : Nat} {W : World} {v : Value} {ls : List (List UInt8)} (h : Strs n₀ W v ls) : ∃ q c, v = .slice q ls.length c := by
  rcases h with ⟨rfl, rfl⟩ | ⟨g, cap, hv, _⟩
  · exact ⟨none, 0, rfl⟩
  · exact ⟨_, _, hv⟩
theorem OkN.count {ls : List (List UInt8)} (h : OkN ls) : ls.length ≤ 127 := by
  have := flat_count ls (fun l hl => (h.lab l hl).1); have := h.len; omega
theorem lowN_length (ls : List (List UInt8)) : (lowN ls).length = ls.length := by simp [lowN]
def undB (a b : List (List UInt8)) : Bool := decide (shEnd (lowN a) (lowN b) = b.length)
set_option maxHeartbeats 400000 in
theorem under_in (a b : List (List UInt8)) (ha : OkN a) (hb : OkN b) (w : World) :
    Calls Tryz.prog 38 #[.string (nm a), .string (nm b)] w fun e w' => e = .returned (.bool (undB a b)) ∧ Below w.heap.size w w' := by
  have hca := ha.low.count
  have hcb := hb.low.count
  have hl := lowN_length b
  have HL := Hid.mk hl
  clear hl
  go_enter Tryz.func38, Tryz.ntmps38
  go_wp2_with fail
  refine (lowered_nm b hb _).mono ?_
  rintro e w1 ⟨rfl, hb1⟩
  go_wp2_with fail
  refine (labelsOf_in (lowN b) hb.low _).mono ?_
  rintro e w2 ⟨⟨vb, rfl, hvb⟩, hb2⟩
  go_wp2_with fail
  refine (lowered_nm a ha _).mono ?_
  rintro e w3 ⟨rfl, hb3⟩
  go_wp2_with fail
  refine (labelsOf_in (lowN a) ha.low _).mono ?_
  rintro e w4 ⟨⟨va, rfl, hva⟩, hb4⟩
  have hvb4 := (hvb.below (bthen hb3 hb4)).mono (bthen hb3 hb4).size
  clear hvb
  obtain ⟨q, c, hq⟩ := hvb4.form
  subst hq
  go_wp2_with fail
  refine (sharedEnd_in _ _ (lowN a) (lowN b) _ _ (by omega) (by omega) hva hvb4).mono ?_
  rintro e w5 ⟨rfl, hb5⟩
  clear hva hvb4
  go_wp2
  go_ret
  refine ⟨?_, (bthen hb1 (bthen hb2 (bthen hb3 (bthen hb4 hb5))))⟩
  rw [HL.out]
  show Ending.returned (.bool (((shEnd (lowN a) (lowN b) : Nat) : Int) == ((b.length : Nat) : Int))) = _
  congr 2
  rw [undB, Bool.eq_iff_iff]; simp; omega
theorem under_yes (a b : List (List UInt8)) (ha : OkN a) (hb : OkN b) (w : World) :
    Calls Tryz.prog 21 #[.string (nm a), .string (nm b)] w fun e w' => e = .returned (.bool (undB a b)) ∧ Below w.heap.size w w' := by
  go_enter Tryz.func21, Tryz.ntmps21
  go_wp2_with fail
  refine (right_yes a ha _).mono ?_
  rintro e w1 ⟨rfl, hb1⟩
  go_wp2_with fail
  refine (right_yes b hb _).mono ?_
  rintro e w2 ⟨rfl, hb2⟩
  go_wp2_with fail
  refine (under_in a b ha hb _).mono ?_
  rintro e w3 ⟨rfl, hb3⟩
  go_wp2
  go_ret
  exact ⟨rfl, bthen hb1 (bthen hb2 hb3)⟩
theorem nm_inj {a b : List (List UInt8)} (ha : OkN a) (hb : OkN b) (h : nm a = nm b) : a = b := by
  have h1 : Seq (nm b) a := ⟨by rw [← h, nm_list]; exact List.prefix_append _ _, fun l hl => ⟨(ha.lab l hl).1, by have := (ha.lab l hl).2; omega⟩⟩
  have h2 : Ends (nm b) (flat a).length := fun hl => by
    left
    have : (flat a).length < (nm a).size := by rw [nm_size]; omega
    have e := nm_get_end a this
    simp only [← h]; exact e
  exact h1.all_name hb h2
def eqB (a b : List (List UInt8)) : Bool := decide (lowN a = lowN b)
theorem equal_yes (a b : List (List UInt8)) (ha : OkN a) (hb : OkN b) (w : World) :
    Calls Tryz.prog 7 #[.string (nm a), .string (nm b)] w fun e w' => e = .returned (.bool (eqB a b)) ∧ Below w.heap.size w w' := by
  go_enter Tryz.func7, Tryz.ntmps7
  go_wp2_with fail
  refine (right_yes a ha _).mono ?_
  rintro e w1 ⟨rfl, hb1⟩
  go_wp2_with fail
  refine (right_yes b hb _).mono ?_
  rintro e w2 ⟨rfl, hb2⟩
  go_wp2_with fail
  refine (lowered_nm a ha _).mono ?_
  rintro e w3 ⟨rfl, hb3⟩
  go_wp2_with fail
  refine (lowered_nm b hb _).mono ?_
  rintro e w4 ⟨rfl, hb4⟩
  go_wp2
  go_ret
  refine ⟨?_, bthen hb1 (bthen hb2 (bthen hb3 hb4))⟩
  show Ending.returned (.bool ((nm (lowN a)).toList == (nm (lowN b)).toList)) = _
  congr 2
  rw [eqB, Bool.eq_iff_iff, beq_iff_eq, decide_eq_true_iff, ByteArray.toList_eq, ByteArray.toList_eq]
  exact ⟨fun h => nm_inj ha.low hb.low (ba_ext h), fun h => by rw [h]⟩
end Go.Proofs.YtnchoogjjnjikaaGreatDoor
/- withoutFirst, Parent, Common, Child, Moved. -/
namespace Go.Proofs.YtnchoogjjnjikaaGreatDoor
set_option linter.unusedVariables false
open Go.RowKit Go.Shelf
attribute [local go_sem] Oper.semAt_some
theorem flat_drop_nm (p q : List (List UInt8)) : (nm (p ++ q)).extract (flat p).length (nm (p ++ q)).size = nm q := by
  apply ba_ext
  rw [Lib.extract_data, nm_list, nm_list, nmL, flat_append, List.append_assoc, List.drop_left]
  exact List.take_of_length_le (by rw [nm_size, flat_append]; simp; omega)
theorem keepsOthers_below {W W' : World} (h : Below W.heap.size W W') : KeepsOthers W W' :=
  ⟨h.size, fun k o hk _ => (h.block k (Array.getElem?_eq_some_iff.1 hk).1).trans hk⟩
theorem stop_drop {ls : List (List UInt8)} {N : Nat} (ho : OkN ls) {pre : List (Lab N)} (hsq : Seq (nm ls) (labs pre)) (hpl : Placed pre) {c : Nat} (hlen : pre.length = c + 1) :
    (nm ls).extract ((pre.getLast?.map (fun x => x.1.1)).getD 0) (nm ls).size = nm (ls.drop c) := by
  rcases List.eq_nil_or_concat pre with rfl | ⟨q, x, rfl⟩
  · simp at hlen
  · rw [List.concat_eq_append] at *
    have hq : q.length = c := by simpa using hlen
    obtain ⟨r, hr⟩ := hsq.of_name ho
    rw [labs_snoc, List.append_assoc] at hr
    have hx : x.1.1 = (flat (labs q)).length := by have := hpl q.length (by simp); simpa using this
    have hd : ls.drop c = [x.1.2.data.toList] ++ r := by
      rw [← hr, List.drop_append_of_le_length (by simp [labs]; omega), List.drop_of_length_le (by simp [labs]; omega)]; rfl
    rw [hd]
    simp only [List.getLast?_append, List.getLast?_singleton, Option.some_or, Option.map_some, Option.getD_some]
    rw [hx, ← hr]
    exact flat_drop_nm _ _
set_option maxRecDepth 100000 in
set_option maxHeartbeats 1000000 in
theorem withoutFirst_in (ls : List (List UInt8)) (ho : OkN ls) (c : Nat) (hc : c ≤ ls.length) (w : World) :
    Calls Tryz.prog 127 #[.string (nm ls), .int .i64 c] w fun e w' => e = .returned (.string (nm (ls.drop c))) ∧ Below w.heap.size w w' := by
  have hsz : (nm ls).size ≤ 255 := by rw [nm_size]; have := ho.len; omega
  have hcnt := ho.count
  refine (callsIn_wide (n := 5)).1 ?_
  refine callsIn_of_wp_marks Tryz.func127 rfl trivial ?_ rfl
  simp only [Tryz.ntmps127, List.size_toArray, List.length_cons, List.length_nil, Nat.reduceAdd, Nat.reduceSub, Array.replicate_succ, Array.replicate_zero, List.push_toArray, List.append_toArray, List.nil_append, List.cons_append]
  gi_wp2_with (refine ⟨trivial, ?_⟩; gi_at_call 36; refine (callsIn_wide.2 (eachLabel_in _ _)).mono ?_; rintro e w' ⟨rfl, rfl⟩)
  obtain ⟨W0, hW0⟩ : ∃ W0, ((((w.alloc (.cells #[.string (nm ls)] 9)).alloc (.cells #[.int .i64 (c : Int)] 3)).alloc (.cells #[.string ⟨#[]⟩] 9)).alloc (.cells #[.string (nm ls)] 9)) = W0 := ⟨_, rfl⟩
  have hsz0 : W0.heap.size = w.heap.size + 4 := by rw [← hW0]; simp
  have hx0 : Boxed W0 w.heap.size 9 (.string (nm ls)) := by rw [← hW0]; exact (((Boxed.new _ _ _).alloc _).alloc _).alloc _
  have hx1 : Boxed W0 (w.heap.size + 1) 3 (.int .i64 (c : Int)) := by
    rw [← hW0]
    have := ((Boxed.new (w.alloc (.cells #[.string (nm ls)] 9)) 3 (.int .i64 (c : Int))).alloc (.cells #[.string ⟨#[]⟩] 9)).alloc (.cells #[.string (nm ls)] 9)
    rwa [World.size_alloc] at this
  have hx2 : Boxed W0 (w.heap.size + 1 + 1) 9 (.string ⟨#[]⟩) := by
    rw [← hW0]
    have := (Boxed.new ((w.alloc (.cells #[.string (nm ls)] 9)).alloc (.cells #[.int .i64 (c : Int)] 3)) 9 (.string ⟨#[]⟩)).alloc (.cells #[.string (nm ls)] 9)
    rwa [World.size_alloc, World.size_alloc] at this
  have hx3 : Boxed W0 (w.heap.size + 1 + 1 + 1) 9 (.string (nm ls)) := by
    rw [← hW0]
    have := (Boxed.new (((w.alloc (.cells #[.string (nm ls)] 9)).alloc (.cells #[.int .i64 (c : Int)] 3)).alloc (.cells #[.string ⟨#[]⟩] 9)) 9 (.string (nm ls)))
    rwa [World.size_alloc, World.size_alloc, World.size_alloc] at this
  have hB0 : Below w.heap.size w W0 := by
    rw [← hW0]; exact ((((Below.refl _ _).alloc (Nat.le_refl _) _).alloc (by simp) _).alloc (by simp; omega) _).alloc (by simp; omega) _
  rw [hW0]
  clear hW0
  refine wpIn_rangeFunc_ownF rfl (by omega) (gf := 61) (lb := #[.pointer (some ⟨w.heap.size + 1 + 1 + 1, 0, none⟩)]) rfl trivial (enters_of Tryz.func61 (by kernel_rfl) rfl)
    (eachLabel_stops Fence.wide (5 - 1) trivial rfl (by omega) (w.heap.size + 1 + 1 + 1) (nm ls) hsz _ hx3.lt hx3.cell) KeepCell.t KeepCell.b (Below.refl _ _) (fun _ => rfl)
    (fun pre W => (Boxed W w.heap.size 9 (.string (nm ls)) ∧ Boxed W (w.heap.size + 1) 3 (.int .i64 ((c : Int) - pre.length)) ∧ Boxed W (w.heap.size + 1 + 1) 9 (.string ⟨#[]⟩) ∧ pre.length ≤ c) ∧ Below w.heap.size w W)
    (fun j pre W => (Boxed W (w.heap.size + 1 + 1) 9 (.string ((nm ls).extract ((pre.getLast?.map (fun x => x.1.1)).getD 0) (nm ls).size)) ∧ (j = .ret ∧ pre.length = c + 1)) ∧ Below w.heap.size w W)
    ?hI ?hIx ?h0 (fun x => { tmps := #[.string (nm ls), .int .i64 (c : Int), .pointer (some ⟨w.heap.size, 0, none⟩), .pointer (some ⟨w.heap.size + 1, 0, none⟩), .pointer (some ⟨w.heap.size + 1 + 1, 0, none⟩), .int .i64 (x.1.1 : Int), .string (nm ls), .func (.func 61) #[] #[.pointer (some ⟨w.heap.size + 1 + 1 + 1, 0, none⟩)], .int .i64 (x.1.1 : Int), .string x.1.2, undef, undef, undef, undef, undef, undef, undef, undef], defers := [] }) ?assign ?body ?done ?stop
  case hI =>
    exact OwnFrom.and (OwnFrom.and (Own.from (boxed_own _ _ _) _) (OwnFrom.and (Own.from (boxed_own _ _ _) _) (OwnFrom.and (Own.from (boxed_own _ _ _) _) (ownFrom_pure _ _)))) (ownFrom_below (Nat.le_refl _) (by omega))
  case hIx =>
    intro j
    exact OwnFrom.and (OwnFrom.and (Own.from (boxed_own _ _ _) _) (ownFrom_pure _ _)) (ownFrom_below (Nat.le_refl _) (by omega))
  case h0 =>
    exact ⟨⟨hx0, by simpa using hx1, hx2, Nat.zero_le _⟩, hB0⟩
  case assign =>
    intro l x W K hK
    gi_wp2
    exact hK
  case body =>
    rintro l pre x W ⟨⟨h0, h1, h2, hle⟩, hB⟩ _
    clear hx0 hx1 hx2 hx3 hB0
    have hxl := x.2.1
    have hc0 := h0.cell
    have hc1 := h1.cell
    have hf1 := h1.frozen
    have hlt0 := h0.lt
    have hlt1 := h1.lt
    have hlt2 := h2.lt
    by_cases he : pre.length = c
    · have hz : (((c : Int) - (pre.length : Int)) == 0) = true := by simp; omega
      have hsx : ((nm ls).extract x.1.1 (nm ls).size).size ≤ 255 := by rw [ByteArray.size_extract]; omega
      have HE := Hid.mk he
      clear he hc1 hle
      have hc1 : W.cell? ⟨w.heap.size + 1, 0, none⟩ = some (.int .i64 ((c : Int) - pre.length)) := h1.cell
      gi_wp2_with (refine ⟨trivial, ?_⟩; gi_at_call 97; refine (CallsIn.inRound l (callsIn_wide.2 (clone_in _ _ (Nat.le_trans hsx (by omega))))).mono ?_; rintro e w1 ⟨rfl, hb1⟩; have hy2 : Boxed w1 (w.heap.size + 1 + 1) 9 (.string ⟨#[]⟩) := (hb1.block _ hlt2).trans h2; have hcy := hy2.cell; have hfy := hy2.frozen)
      refine ⟨(keepsOthers_below hb1).trans (KeepsOthers.setCell _ _ _), ⟨?_, rfl, by simp; exact HE.out⟩, (hB.trans (hb1.mono hB.size)).setCell (p := ⟨w.heap.size + 1 + 1, 0, none⟩) (by simp; omega) _⟩
      have := hy2.set (.string ((nm ls).extract x.1.1 (nm ls).size))
      simpa using this
    · have hz : (((c : Int) - (pre.length : Int)) == 0) = false := by simp; omega
      have hlt : pre.length < c := by omega
      clear he
      gi_wp2
      refine ⟨KeepsOthers.setCell _ _ _, KeepCell.setCell _ _ (by omega), ⟨h0.other (by omega) _, ?_, h2.other (by omega) _, by simp; omega⟩, hB.setCell (p := ⟨w.heap.size + 1, 0, none⟩) (by simp) _⟩
      have := h1.set (.int .i64 ((c : Int) - ((pre ++ [x]).length : Nat)))
      have e : ((c : Int) - ((pre ++ [x]).length : Nat)) = (c : Int) - pre.length - 1 := by simp; omega
      rw [e] at this ⊢
      exact this
  case done =>
    rintro D ys W hD ⟨hsq, hpl, hen⟩ ⟨⟨h0, h1, h2, hle⟩, hB⟩ hK
    have hys : labs ys = ls := hsq.all_name ho hen
    have hlen : ls.length = ys.length := by have := congrArg List.length hys; simp [labs] at this; omega
    have hdr : Hid (ls.drop c = []) := List.drop_eq_nil_of_le (by omega)
    clear hys hlen hle
    have hc2 := h2.cell
    have hf2 := h2.frozen
    gi_wp2
    have hK' := (KeepsOthers.setCell W ⟨w.heap.size + 1 + 1, 0, none⟩ (.string ⟨#[0]⟩)).same D _ hK rfl
    refine ⟨by simp, .inl ⟨_, _, rfl, run_takeDeferred hK', ?_⟩⟩
    have hc5 := cell_kept (World.cell?_setCell_same' W ⟨w.heap.size + 1 + 1, 0, none⟩ (.string ⟨#[0]⟩) (by rw [hc2]; rfl)) (grownBy_putObj' _ D (.deferred none)) (fun r e => by cases e; exact ⟨_, hK', rfl⟩)
    refine ⟨.string ⟨#[0]⟩, ?_, by rw [hdr.out]; rfl, (hB.setCell (p := ⟨w.heap.size + 1 + 1, 0, none⟩) (by simp; omega) _).trans (belowK_b (w := w) (Nat.le_refl _) _ D _ _ (by omega) hK' rfl rfl)⟩
    simp [results, Tryz.f127, go_sem, hc5]
  case stop =>
    rintro D j pre W hD ⟨hsq, hpl⟩ ⟨⟨h2, rfl, hlen⟩, hB⟩ hK
    have hv := stop_drop ho hsq hpl hlen
    rw [hv] at h2
    gi_wp2
    refine ⟨by simp, .inl ⟨_, _, rfl, run_takeDeferred hK, ?_⟩⟩
    have hc5 := cell_kept h2.cell (grownBy_putObj' _ D (.deferred none)) (fun r e => by cases e; exact ⟨_, hK, rfl⟩)
    refine ⟨.string (nm (ls.drop c)), ?_, rfl, hB.trans (belowK_b (w := w) (Nat.le_refl _) W D _ _ (by omega) hK rfl rfl)⟩
    simp [results, Tryz.f127, go_sem, hc5]
end Go.Proofs.YtnchoogjjnjikaaGreatDoor