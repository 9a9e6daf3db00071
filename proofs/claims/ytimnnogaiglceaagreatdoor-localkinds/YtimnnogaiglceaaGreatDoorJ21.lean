/- Texts of this proof, joined: LdQ, LdR, LdS. -/
import Derived.Test.YtimnnogaiglceaaGreatDoorJ20
/- Layer 14: the law's examples. -/
namespace Go.Proofs.YtimnnogaiglceaaGreatDoor
set_option linter.unusedVariables false
set_option linter.unusedSimpArgs false
open Go.RowKit
theorem ok_c : OkN [[98], [115]] := ok_dec (by decide) (by decide)
theorem ok_d : OkN [[99], [115]] := ok_dec (by decide) (by decide)
theorem ok_g : OkN [[113], [114]] := ok_dec (by decide) (by decide)
theorem ok_h : OkN [[120], [110, 111], [115]] := ok_dec (by decide) (by decide)
theorem ok_i : OkN [] := ok_dec (by decide) (by decide)
set_option maxRecDepth 100000 in
set_option maxHeartbeats 4000000 in
theorem examples14_in (W : World) : Calls Tryz.prog 6 #[] W fun e w' => e = .returned (.bool true) ∧ Below W.heap.size W w' := by
  have HA := Hid.mk la_in
  obtain ⟨D, hD⟩ : ∃ D, exD = D := ⟨_, rfl⟩
  have HD := Hid.mk hD
  rw [hD] at HA
  clear hD
  go_enter Tryz.func6, Tryz.ntmps6
  go_wp2_with fail
  refine (HA.out _ _).mono ?_
  rintro e w1 ⟨rfl, hb1⟩
  go_wp2_with fail
  refine (HA.out _ _).mono ?_
  rintro e w2 ⟨rfl, hb2⟩
  go_wp2_with fail
  obtain ⟨R1, hR1⟩ : ∃ R1, w1.alloc (.cells #[.string ((⟨#[1, 97, 1, 98]⟩ : ByteArray) ++ ⟨#[1, 115, 0]⟩), .int .i64 1, .int .i64 1, .int .i64 5, .string D] 33) = R1 := ⟨_, rfl⟩
  rw [hR1] at hb2
  obtain ⟨R2, hR2⟩ : ∃ R2, w2.alloc (.cells #[.string ⟨#[1, 114, 0]⟩, .int .i64 1, .int .i64 1, .int .i64 5, .string D] 33) = R2 := ⟨_, rfl⟩
  obtain ⟨R3, hR3⟩ : ∃ R3, R2.alloc (.cells #[.string ⟨#[1, 115, 0]⟩, .int .i64 3, .slice (some ⟨w1.heap.size, 0, none⟩) 1 1, .string ⟨#[1, 114, 0]⟩, .int .i64 5, .slice (some ⟨w2.heap.size, 0, none⟩) 1 1, .string ((⟨#[2, 110, 111]⟩ : ByteArray) ++ ⟨#[1, 115, 0]⟩), .int .i64 2, .slice none 0 0] 26) = R3 := ⟨_, rfl⟩
  have d1 : Below w1.heap.size w1 R1 := hR1 ▸ (Below.refl _ _).alloc (Nat.le_refl _) _
  have d2 : Below w2.heap.size w2 R2 := hR2 ▸ (Below.refl _ _).alloc (Nat.le_refl _) _
  have d3 : Below R2.heap.size R2 R3 := hR3 ▸ (Below.refl _ _).alloc (Nat.le_refl _) _
  have s2 : R2.heap.size = w2.heap.size + 1 := by rw [← hR2]; simp
  have x1 : R1.heap[w1.heap.size]? = some (.cells #[.string (nm n1), .int .i64 1, .int .i64 1, .int .i64 5, .string exD] 33 (0, 0)) := by rw [HD.out, ← e_1]; exact hR1 ▸ heap_alloc_new w1 _
  have x2 : R2.heap[w2.heap.size]? = some (.cells #[.string (nm nr), .int .i64 1, .int .i64 1, .int .i64 5, .string exD] 33 (0, 0)) := by rw [HD.out, ← e_r]; exact hR2 ▸ heap_alloc_new w2 _
  have x3 : R3.heap[w2.heap.size + 1]? = some (.cells #[.string (nm ns), .int .i64 3, .slice (some ⟨w1.heap.size, 0, none⟩) 1 1, .string (nm nr), .int .i64 5, .slice (some ⟨w2.heap.size, 0, none⟩) 1 1, .string (nm no), .int .i64 2, .slice none 0 0] 26 (0, 0)) := by rw [← e_s, ← e_r, ← e_o, ← s2]; exact hR3 ▸ heap_alloc_new R2 _
  have y1 := (d3.block _ (Array.getElem?_eq_some_iff.1 ((d2.block _ (Array.getElem?_eq_some_iff.1 ((hb2.block _ (Array.getElem?_eq_some_iff.1 x1).1).trans x1)).1).trans ((hb2.block _ (Array.getElem?_eq_some_iff.1 x1).1).trans x1))).1).trans ((d2.block _ (Array.getElem?_eq_some_iff.1 ((hb2.block _ (Array.getElem?_eq_some_iff.1 x1).1).trans x1)).1).trans ((hb2.block _ (Array.getElem?_eq_some_iff.1 x1).1).trans x1))
  have y2 := (d3.block _ (Array.getElem?_eq_some_iff.1 x2).1).trans x2
  have HNew := Hid.mk (new14_in R3 (some ⟨w2.heap.size + 1, 0, none⟩) 3 exL (ex_at y1 y2 x3) ex_in (by decide))
  have bR3 : Below W.heap.size W R3 := by
    have a1 := hb1
    have a2 := a1.trans (d1.mono a1.size)
    have a3 := a2.trans (hb2.mono a2.size)
    have a4 := a3.trans (d2.mono a3.size)
    exact a4.trans (d3.mono a4.size)
  have HBR := Hid.mk bR3
  rw [hR2, hR3]
  clear d1 d2 d3 s2 x1 x2 x3 y1 y2 hb1 hb2 hR1 hR2 hR3 bR3
  refine HNew.out.mono ?_
  rintro e w4 ⟨h4, hb4⟩
  rcases h4 with ⟨_, X, M, rfl, L, hLm, hL4⟩ | ⟨hno, _⟩
  case inr => exact absurd okL_ex hno
  have HLm := Hid.mk hLm
  have HL4 := Hid.mk hL4
  have HB4 := Hid.mk (HBR.out.trans (hb4.mono HBR.out.size))
  obtain ⟨R5, hR5⟩ : ∃ R5, w4.alloc (.cells #[.string ⟨#[]⟩, .int .i64 0, .slice none 0 0] 26) = R5 := ⟨_, rfl⟩
  have d5 : Below w4.heap.size w4 R5 := hR5 ▸ (Below.refl _ _).alloc (Nat.le_refl _) _
  have x5 : R5.heap[w4.heap.size]? = some (.cells #[.string ⟨#[]⟩, .int .i64 0, .slice none 0 0] 26 (0, 0)) := hR5 ▸ heap_alloc_new w4 _
  have HNw5 := Hid.mk (new14_in R5 (some ⟨w4.heap.size, 0, none⟩) 1 emL (em_at x5) em_in (by decide))
  have HL5 := Hid.mk (hL4.blk d5)
  have HB5 := Hid.mk (HB4.out.trans (d5.mono HB4.out.size))
  have HR5 := Hid.mk hR5
  clear hR5 x5 d5 hL4 hLm hb4 HNew HBR HB4
  go_wp2_with fail
  rw [HR5.out]
  refine HNw5.out.mono ?_
  rintro e w6 ⟨h6, hb6⟩
  rcases h6 with ⟨hok, _⟩ | ⟨_, rfl⟩
  case inl => exact absurd hok not_empty
  have HL6 := Hid.mk (HL5.out.blk hb6)
  have HB6 := Hid.mk (HB5.out.trans (hb6.mono HB5.out.size))
  clear hb6 HL5 HB5 HNw5 HR5
  have HQ6 : Hid (Calls Tryz.prog 12 #[ptA X 0, .string (nm n1), .int .i64 1] w6 fun e w' => AnP w6 (ansR exL (nm n1) 1) e w') := ask_ex HL6.out HLm.out ok_1
  rw [ex_b, ← e_1] at HQ6
  go_wp2_with fail
  refine HQ6.out.mono ?_
  rintro e w7 ⟨v7, rfl, hs7, hb7⟩
  have HL7 := Hid.mk (HL6.out.blk hb7)
  have HB7 := Hid.mk (HB6.out.trans (hb7.mono HB6.out.size))
  obtain ⟨gl, cl, hv7, _⟩ := name_of hs7
  subst hv7
  clear hs7 hb7 HL6 HB6 HQ6
  have HQ7 : Hid (Calls Tryz.prog 12 #[ptA X 0, .string (nm [[98], [115]]), .int .i64 1] w7 fun e w' => AnP w7 (ansR exL (nm [[98], [115]]) 1) e w') := ask_ex HL7.out HLm.out ok_c
  rw [ex_c, ← e_c] at HQ7
  go_wp2_with fail
  refine HQ7.out.mono ?_
  rintro e w8 ⟨v8, rfl, hs8, hb8⟩
  have HL8 := Hid.mk (HL7.out.blk hb8)
  have HB8 := Hid.mk (HB7.out.trans (hb8.mono HB7.out.size))
  obtain ⟨q8, c8, hv8⟩ := setsAt_len hs8
  subst hv8
  clear hs8 hb8 HL7 HB7 HQ7
  have HQ8 : Hid (Calls Tryz.prog 12 #[ptA X 0, .string (nm [[99], [115]]), .int .i64 1] w8 fun e w' => AnP w8 (ansR exL (nm [[99], [115]]) 1) e w') := ask_ex HL8.out HLm.out ok_d
  rw [ex_d, ← e_d] at HQ8
  go_wp2_with fail
  refine HQ8.out.mono ?_
  rintro e w9 ⟨v9, rfl, hs9, hb9⟩
  have HL9 := Hid.mk (HL8.out.blk hb9)
  have HB9 := Hid.mk (HB8.out.trans (hb9.mono HB8.out.size))
  obtain ⟨q9, c9, hv9⟩ := setsAt_len hs9
  subst hv9
  clear hs9 hb9 HL8 HB8 HQ8
  have HQ9 : Hid (Calls Tryz.prog 12 #[ptA X 0, .string (nm [[113], [114]]), .int .i64 1] w9 fun e w' => AnP w9 (ansR exL (nm [[113], [114]]) 1) e w') := ask_ex HL9.out HLm.out ok_g
  rw [ex_g, ← e_g] at HQ9
  go_wp2_with fail
  refine HQ9.out.mono ?_
  rintro e w10 ⟨v10, rfl, hs10, hb10⟩
  have HL10 := Hid.mk (HL9.out.blk hb10)
  have HB10 := Hid.mk (HB9.out.trans (hb10.mono HB9.out.size))
  obtain ⟨gm, cm, hv10, _⟩ := name_of hs10
  subst hv10
  have HSm := Hid.mk (fun w (hb : Below w10.heap.size w10 w) => (name_of (hs10.blk hb)))
  have HZ10 := Hid.mk (Below.refl w10.heap.size w10)
  clear hs10 hb10 HL9 HB9 HQ9
  have HQ10 : Hid (Calls Tryz.prog 12 #[ptA X 0, .string (nm [[120], [110, 111], [115]]), .int .i64 1] w10 fun e w' => AnP w10 (ansR exL (nm [[120], [110, 111], [115]]) 1) e w') := ask_ex HL10.out HLm.out ok_h
  rw [ex_h, ← e_h] at HQ10
  go_wp2_with fail
  refine HQ10.out.mono ?_
  rintro e w11 ⟨v11, rfl, hs11, hb11⟩
  have HL11 := Hid.mk (HL10.out.blk hb11)
  have HB11 := Hid.mk (HB10.out.trans (hb11.mono HB10.out.size))
  obtain ⟨q11, c11, hv11⟩ := setsAt_len hs11
  subst hv11
  have HZ11 := Hid.mk (HZ10.out.trans (hb11.mono HZ10.out.size))
  clear hs11 hb11 HL10 HB10 HQ10
  have HQ11 : Hid (Calls Tryz.prog 12 #[ptA X 0, .string (nm []), .int .i64 1] w11 fun e w' => AnP w11 (ansR exL (nm []) 1) e w') := ask_ex HL11.out HLm.out ok_i
  rw [ex_i, ← e_i] at HQ11
  go_wp2_with fail
  refine HQ11.out.mono ?_
  rintro e w12 ⟨v12, rfl, hs12, hb12⟩
  have HL12 := Hid.mk (HL11.out.blk hb12)
  have HB12 := Hid.mk (HB11.out.trans (hb12.mono HB11.out.size))
  obtain ⟨q12, c12, hv12⟩ := setsAt_len hs12
  subst hv12
  have HZ12 := Hid.mk (HZ11.out.trans (hb12.mono HZ11.out.size))
  clear hs12 hb12 HL11 HB11 HQ11
  obtain ⟨g2, c2, hg2, cn⟩ := HSm.out _ HZ12.out
  cases hg2
  have hbb := HB12.out
  rw [← e_g] at cn
  clear HL12 HB12 HZ12 HZ11 HZ10 HSm HLm HA HD
  go_wp2
  go_ret
  exact ⟨rfl, hbb⟩
end Go.Proofs.YtimnnogaiglceaaGreatDoor
/- Layer 14: a zone by itself. -/
namespace Go.Proofs.YtimnnogaiglceaaGreatDoor
set_option linter.unusedVariables false
set_option linter.unusedSimpArgs false
open Go.RowKit
theorem okL_one (z : Lc) : okL [z] ↔ rightR z = true := ⟨fun h => h.1 z (by simp), fun h => ⟨fun x hx => by obtain rfl := List.mem_singleton.1 hx; exact h, by simp⟩⟩
theorem right_34 (zone : ByteArray) (rs : List Rc) : rightR ⟨zone, 4, rs⟩ = rightR ⟨zone, 3, rs⟩ := by
  unfold rightR
  have : ∀ r : Rc, plcR r.nm ⟨zone, 4, rs⟩ = plcR r.nm ⟨zone, 3, rs⟩ := fun r => by
    unfold plcR
    simp only
    rw [if_pos (.inr trivial), if_pos (.inl trivial)]
  simp only [this]
  rfl
theorem right_none {zone : ByteArray} (h : IsName zone) {k : Int} (h1 : 1 ≤ k) (h2 : k ≤ 5) : rightR ⟨zone, k, []⟩ = true := by
  unfold rightR
  simp only
  rw [isN_yes h, decide_eq_true h1, decide_eq_true h2]
  rfl
theorem nearR_one (z : Lc) : ∀ n : N3, nearR [z] n = if lowN (lb z.nm) <:+ n then some z else none
  | [] => by
    rw [nearR, List.find?_cons, List.find?_nil]
    by_cases h : lowN (lb z.nm) = []
    · have : keyZ [] z = true := by unfold keyZ; exact decide_eq_true h
      rw [this, if_pos (by rw [h]; exact List.suffix_refl _)]
    · have : keyZ [] z = false := by unfold keyZ; exact decide_eq_false h
      rw [this, if_neg (by rw [List.suffix_nil]; exact h)]
  | l :: n => by
    rw [nearR, List.find?_cons, List.find?_nil]
    by_cases h : lowN (lb z.nm) = l :: n
    · have : keyZ (l :: n) z = true := by unfold keyZ; exact decide_eq_true h
      rw [this, if_pos (by rw [h]; exact List.suffix_refl _)]
    · have : keyZ (l :: n) z = false := by unfold keyZ; exact decide_eq_false h
      rw [this]
      simp only
      rw [nearR_one z n]
      simp only [List.suffix_cons_iff, h, false_or]
theorem near_one {z : Lc} (hz : IsName z.nm) (s : ByteArray) : near [z] s = if undF s z.nm then some z else none := by
  unfold near
  by_cases hs : IsName s
  · rw [isN_yes hs, if_pos rfl, nearR_one]
    obtain ⟨h1, h2⟩ := lb_ok hs
    obtain ⟨g1, g2⟩ := lb_ok hz
    have e : undF s z.nm = undB (lb s) (lb z.nm) := by
      conv => lhs; rw [h2, g2]
      exact undF_nm h1 g1
    rw [e]
    cases hu : undB (lb s) (lb z.nm) with
    | true => rw [if_pos ((undB_iff _ _).1 hu), if_pos rfl]
    | false => rw [if_neg (fun h => by rw [(undB_iff _ _).2 h] at hu; cases hu)]; rfl
  · rw [isN_no hs, undF_no (fun h => hs h.1)]
    rfl
theorem ansR_one {z : Lc} (hz : IsName z.nm) (s : ByteArray) (kind : Int) : ansR [z] s kind = if undF s z.nm then ansZ z (lb s) kind else (0, []) := by
  unfold ansR
  rw [near_one hz]
  cases undF s z.nm <;> rfl
theorem ansZ_k (zone : ByteArray) (rs : List Rc) (n : N3) (kind : Int) : ansZ ⟨zone, 1, []⟩ n kind = (1, []) ∧ ansZ ⟨zone, 2, []⟩ n kind = (2, []) ∧ ansZ ⟨zone, 3, rs⟩ n kind = stcR (zsets rs) n (lb zone) kind ∧ ansZ ⟨zone, 4, rs⟩ n kind = trsR (zsets rs) n (lb zone) kind := ⟨rfl, rfl, rfl, rfl⟩
theorem lone_at {w : World} {b : Nat} {zone : ByteArray} {k : Int} {q : Option Addr} {cap : Nat} {rs : List Rc} (h : w.heap[b]? = some (.cells #[.string zone, .int .i64 k, .slice q rs.length cap] 26 (0, 0))) (hr : RcsAt w q rs) : LcsAt w (some ⟨b, 0, none⟩) [⟨zone, k, rs⟩] := by
  intro j hj
  have : j = 0 := by simp at hj; omega
  subst this
  exact ⟨b, 0, q, cap, rfl, (Array.getElem?_eq_some_iff.1 h).1, by rw [So.cell_blk h]; rfl, by rw [So.cell_blk h]; rfl, by rw [So.cell_blk h]; rfl, hr⟩
theorem lone_in {zone : ByteArray} {k : Int} {rs : List Rc} (h1 : zone.size ≤ maxLen) (h2 : RIn rs) (h3 : rs.length ≤ maxLen) (h4 : I64 k) : LIn [⟨zone, k, rs⟩] := by
  intro z hz
  obtain rfl := List.mem_singleton.1 hz
  exact ⟨h1, h2, h3, h4⟩
theorem ask_one {N : Nat} {w : World} {X M : Nat} {L : List (Nat × Lc)} {z : Lc} (h : Locs N w X M L) (hL : L.map Prod.snd = [z]) (hz : ZOk z) (s : ByteArray) (hs : s.size ≤ maxLen) (kind : Int) : Calls Tryz.prog 12 #[ptA X 0, .string s, .int .i64 kind] w fun e w' => AnP w (ansR [z] s kind) e w' := by
  have hz : ∀ p ∈ L, ZOk p.2 := fun p hp => by
    have hm : p.2 ∈ [z] := by rw [← hL]; exact List.mem_map_of_mem hp
    rw [List.mem_singleton.1 hm]; exact hz
  have := answer_in N w X M L h hz s hs kind
  rw [ansP_eq, hL] at this
  exact this
end Go.Proofs.YtimnnogaiglceaaGreatDoor
/- Layer 14: LocalKinds. -/
namespace Go.Proofs.YtimnnogaiglceaaGreatDoor
set_option linter.unusedVariables false
set_option linter.unusedSimpArgs false
open Go.RowKit
theorem new_one (V : World) (q : Option Addr) (cap : Nat) (rs : List Rc) (hat : RcsAt V q rs) (hin : RIn rs) (hlen : rs.length ≤ maxLen) (zone : ByteArray) (hz : zone.size ≤ maxLen) (k : Int) (hk : I64 k) : Calls Tryz.prog 7 #[.slice (some ⟨V.heap.size, 0, none⟩) 1 1] (V.alloc (.cells #[.string zone, .int .i64 k, .slice q rs.length cap] 26)) fun e w' => (rightR ⟨zone, k, rs⟩ = true ∧ (∃ X M, e = .returned (.tuple #[ptA X 0, .int .i64 0]) ∧ ∃ L : List (Nat × Lc), L.map Prod.snd = [⟨zone, k, rs⟩] ∧ Locs V.heap.size w' X M L) ∨ rightR ⟨zone, k, rs⟩ = false ∧ e = .returned (.tuple #[.pointer none, .int .i64 12])) ∧ Below V.heap.size V w' := by
  have bU : Below V.heap.size V (V.alloc (.cells #[.string zone, .int .i64 k, .slice q rs.length cap] 26)) := (Below.refl _ _).alloc (Nat.le_refl _) _
  have := new14_in (V.alloc (.cells #[.string zone, .int .i64 k, .slice q rs.length cap] 26)) (some ⟨V.heap.size, 0, none⟩) 1 [⟨zone, k, rs⟩] (lone_at (heap_alloc_new V _) (hat.blk bU)) (lone_in hz hin hlen hk) (by simp)
  refine this.mono ?_
  rintro e w' ⟨h, hb⟩
  refine ⟨?_, bU.trans (hb.mono bU.size)⟩
  rcases h with ⟨ho, X, M, he, L, hL, hl⟩ | ⟨ho, he⟩
  · refine .inl ⟨(okL_one _).1 ho, X, M, he, L, hL, ?_⟩
    refine ⟨Nat.le_trans bU.size hl.nX, Nat.le_trans bU.size hl.nM, hl.xb, hl.mp, fun p hp => ⟨?_, (hl.zs p hp).2⟩⟩
    obtain ⟨v, els, qz, cz, e1, e2⟩ := (hl.zs p hp).1.blk
    refine ⟨Nat.le_trans bU.size (hl.zs p hp).1.nZ, v, els, qz, cz, e1, e2.v, e2.le, fun h0 => ?_, e2.rel.mono fun e s hs => ⟨hs.ls, hs.ty, hs.cl, hs.tl, hs.sv, own_low hs.dv bU.size⟩⟩
    obtain ⟨g, e, hg, hr⟩ := e2.row h0
    exact ⟨g, e, Nat.le_trans bU.size hg, hr⟩
  · refine .inr ⟨?_, he⟩
    cases hr : rightR ⟨zone, k, rs⟩ with
    | false => rfl
    | true => exact absurd ((okL_one _).2 hr) ho
def AnL (W : World) (a : Int) (k : Nat) (e : Ending) (w' : World) : Prop := (∃ q c, e = .returned (.tuple #[.int .i64 a, .slice q k c])) ∧ Below W.heap.size W w'
theorem ask_len {N : Nat} {w : World} {X M : Nat} {L : List (Nat × Lc)} {z : Lc} (h : Locs N w X M L) (hL : L.map Prod.snd = [z]) (hz : ZOk z) (s : ByteArray) (hs : s.size ≤ maxLen) (kind : Int) {a : Int} {k : Nat} (ha : (ansR [z] s kind).1 = a) (hk : (ansR [z] s kind).2.length = k) : Calls Tryz.prog 12 #[ptA X 0, .string s, .int .i64 kind] w fun e w' => AnL w a k e w' := by
  refine (ask_one h hL hz s hs kind).mono ?_
  rintro e w' ⟨v, rfl, hs, hb⟩
  obtain ⟨q, c, hv⟩ := setsAt_len hs
  exact ⟨⟨q, c, by rw [ha, hv, hk]⟩, hb⟩
theorem kinds_four {zone : ByteArray} (hz : IsName zone) (rs : List Rc) (s : ByteArray) (kind : Int) :
    ∃ (a b : Int) (k : Nat) (u : Bool) (g h : Int), (ansR [⟨zone, 3, rs⟩] s kind).1 = a ∧ (ansR [⟨zone, 4, rs⟩] s kind).1 = b ∧ (ansR [⟨zone, 3, rs⟩] s kind).2.length = k ∧ (ansR [⟨zone, 4, rs⟩] s kind).2.length = k ∧ undF s zone = u ∧ (ansR [⟨zone, 1, []⟩] s kind) = (g, []) ∧ (ansR [⟨zone, 2, []⟩] s kind) = (h, []) ∧
      ((a = 5 ∧ b = 0 ∧ u = true ∧ g = 1 ∧ h = 2) ∨ (a = 4 ∧ b = 4 ∧ u = true ∧ g = 1 ∧ h = 2) ∨ (a = 3 ∧ b = 3 ∧ u = true ∧ g = 1 ∧ h = 2) ∨ (a = 0 ∧ b = 0 ∧ u = false ∧ g = 0 ∧ h = 0)) := by
  rw [ansR_one (z := ⟨zone, 3, rs⟩) hz, ansR_one (z := ⟨zone, 4, rs⟩) hz, ansR_one (z := ⟨zone, 1, []⟩) hz, ansR_one (z := ⟨zone, 2, []⟩) hz]
  simp only
  obtain ⟨e1, e2, e3, e4⟩ := ansZ_k zone rs (lb s) kind
  rw [e1, e2, e3, e4]
  cases undF s zone with
  | false => exact ⟨0, 0, 0, false, 0, 0, rfl, rfl, rfl, rfl, rfl, rfl, rfl, .inr (.inr (.inr ⟨rfl, rfl, rfl, rfl, rfl⟩))⟩
  | true =>
    simp only [if_true]
    unfold trsR
    rcases stcR_code (zsets rs) (lb s) (lb zone) kind with ⟨h1, h2⟩ | ⟨h1, h2⟩ | ⟨h1, h2⟩
    · rw [if_pos h1]
      exact ⟨5, 0, 0, true, 1, 2, h1, rfl, by rw [h2]; rfl, rfl, rfl, rfl, rfl, .inl ⟨rfl, rfl, rfl, rfl, rfl⟩⟩
    · rw [if_neg (by rw [h1]; decide)]
      exact ⟨4, 4, 0, true, 1, 2, h1, h1, by rw [h2]; rfl, by rw [h2]; rfl, rfl, rfl, rfl, .inr (.inl ⟨rfl, rfl, rfl, rfl, rfl⟩)⟩
    · rw [if_neg (by rw [h1]; decide)]
      exact ⟨3, 3, _, true, 1, 2, h1, h1, rfl, rfl, rfl, rfl, rfl, .inr (.inr (.inl ⟨rfl, rfl, rfl, rfl, rfl⟩))⟩
set_option maxRecDepth 100000 in
set_option maxHeartbeats 8000000 in
theorem kinds_walk (W : World) (q : Option Addr) (cap : Nat) (rs : List Rc) (hat : RcsAt W q rs) (hin : RIn rs) (hlen : rs.length ≤ maxLen) (zone n : ByteArray) (hz : zone.size ≤ maxLen) (hn : n.size ≤ maxLen) (kind : Int) :
    Calls Tryz.prog 5 #[.slice q rs.length cap, .string zone, .string n, .int .i64 kind] W fun e w' => e = .returned (.bool true) ∧ Below W.heap.size W w' := by
  have HE := Hid.mk (examples14_in W)
  have H3 : Hid (∀ V, Below W.heap.size W V → _) := fun V hb => new_one V q cap rs (hat.blk hb) hin hlen zone hz 3 ⟨by decide, by decide⟩
  have H4 : Hid (∀ V, Below W.heap.size W V → _) := fun V hb => new_one V q cap rs (hat.blk hb) hin hlen zone hz 4 ⟨by decide, by decide⟩
  have H1 : Hid (∀ V : World, _) := fun V => new_one V none 0 [] (fun j hj => by simp at hj) (fun r hr => by simp at hr) (by decide) zone hz 1 ⟨by decide, by decide⟩
  have H2 : Hid (∀ V : World, _) := fun V => new_one V none 0 [] (fun j hj => by simp at hj) (fun r hr => by simp at hr) (by decide) zone hz 2 ⟨by decide, by decide⟩
  rw [right_34] at H4
  have HU := Hid.mk (fun w => nunder_in n zone hn hz w)
  have HZ : Hid (rightR ⟨zone, 3, rs⟩ = true → IsName zone) := fun h => (zone_ty h).1
  have HR1 : Hid (IsName zone → rightR ⟨zone, 1, []⟩ = true ∧ rightR ⟨zone, 2, []⟩ = true) := fun h => ⟨right_none h (by decide) (by decide), right_none h (by decide) (by decide)⟩
  obtain ⟨m, hm⟩ : ∃ m, rs.length = m := ⟨_, rfl⟩
  rw [hm] at H3 H4 ⊢
  simp only [List.length_nil] at H1 H2
  clear hat hm hlen
  go_enter Tryz.func5, Tryz.ntmps5
  go_wp2_with fail
  refine HE.out.mono ?_
  rintro e w1 ⟨rfl, hb1⟩
  have HB1 := Hid.mk hb1
  clear hb1 HE
  go_wp2_with fail
  refine (H3.out _ HB1.out).mono ?_
  rintro e w2 ⟨h2, hb2⟩
  have HB2 := Hid.mk (HB1.out.trans (hb2.mono HB1.out.size))
  rcases h2 with ⟨hr, X, M, rfl, L, hL, hl2⟩ | ⟨hr, rfl⟩
  · have Hr := Hid.mk hr
    have hnm := HZ.out hr
    obtain ⟨r1, r2⟩ := HR1.out hnm
    have HN1 := Hid.mk r1
    have HN2 := Hid.mk r2
    obtain ⟨a, b, k, u, g, h, fa, fb, fk, fk', fu, fg, fh, hc⟩ := kinds_four hnm rs n kind
    rw [fu] at HU
    have HX := Hid.mk (fun w (hw : Locs w1.heap.size w X M L) => ask_len hw hL ⟨hin, hr⟩ n hn kind fa fk)
    have HY : Hid (∀ N w Y M' L', Locs N w Y M' L' → L'.map Prod.snd = [⟨zone, 4, rs⟩] → Calls Tryz.prog 12 #[ptA Y 0, .string n, .int .i64 kind] w fun e w' => AnL w b k e w') := fun N w Y M' L' hw hL' => ask_len hw hL' ⟨hin, by rw [right_34]; exact hr⟩ n hn kind fb fk'
    have HG : Hid (∀ N w Y M' L', Locs N w Y M' L' → L'.map Prod.snd = [⟨zone, 1, []⟩] → Calls Tryz.prog 12 #[ptA Y 0, .string n, .int .i64 kind] w fun e w' => AnL w g 0 e w') := fun N w Y M' L' hw hL' => ask_len hw hL' ⟨fun r hr => by simp at hr, r1⟩ n hn kind (by rw [fg]) (by rw [fg]; rfl)
    have HH : Hid (∀ N w Y M' L', Locs N w Y M' L' → L'.map Prod.snd = [⟨zone, 2, []⟩] → Calls Tryz.prog 12 #[ptA Y 0, .string n, .int .i64 kind] w fun e w' => AnL w h 0 e w') := fun N w Y M' L' hw hL' => ask_len hw hL' ⟨fun r hr => by simp at hr, r2⟩ n hn kind (by rw [fh]) (by rw [fh]; rfl)
    have HL2 := Hid.mk hl2
    clear hl2 hb2 hL fa fb fk fk' fu fg fh r1 r2 hnm hr HZ HR1 H3
    go_wp2_with fail
    refine (H4.out _ HB2.out).mono ?_
    rintro e w3 ⟨h3, hb3⟩
    have HB3 := Hid.mk (HB2.out.trans (hb3.mono HB2.out.size))
    have HL3 := Hid.mk (HL2.out.blk hb3)
    rcases h3 with ⟨_, Y, M3, rfl, L3, hL3, hl3⟩ | ⟨hr, _⟩
    case inr => rw [Hr.out] at hr; cases hr
    have HY3 : Hid (∀ w, Below w3.heap.size w3 w → Calls Tryz.prog 12 #[ptA Y 0, .string n, .int .i64 kind] w fun e w' => AnL w b k e w') := fun w hb => HY.out _ w Y M3 L3 (hl3.blk hb) hL3
    clear hb3 hl3 hL3 HL2 HB2 HY H4
    go_wp2_with fail
    refine (HX.out _ HL3.out).mono ?_
    rintro e w4 ⟨⟨qa, ca, rfl⟩, hb4⟩
    have HB4 := Hid.mk (HB3.out.trans (hb4.mono HB3.out.size))
    have HC4 := Hid.mk (HY3.out _ hb4)
    clear hb4 HB3 HL3 HX HY3
    go_wp2_with fail
    refine HC4.out.mono ?_
    rintro e w5 ⟨⟨qb, cb, rfl⟩, hb5⟩
    have HB5 := Hid.mk (HB4.out.trans (hb5.mono HB4.out.size))
    clear hb5 HB4 HC4
    rcases hc with ⟨rfl, rfl, rfl, rfl, rfl⟩ | ⟨rfl, rfl, rfl, rfl, rfl⟩ | ⟨rfl, rfl, rfl, rfl, rfl⟩ | ⟨rfl, rfl, rfl, rfl, rfl⟩
    all_goals
      go_wp2_with fail
      refine (H1.out _).mono ?_
      rintro e w6 ⟨h6, hb6⟩
      have HB6 := Hid.mk (HB5.out.trans (hb6.mono HB5.out.size))
      rcases h6 with ⟨_, P, MP, rfl, LP, hLP, hlP⟩ | ⟨hr, _⟩
      case inr => rw [HN1.out] at hr; cases hr
      have HP : Hid (∀ w, Below w6.heap.size w6 w → Calls Tryz.prog 12 #[ptA P 0, .string n, .int .i64 kind] w fun e w' => AnL w _ 0 e w') := fun w hb => HG.out _ w P MP LP (hlP.blk hb) hLP
      clear hb6 HB5 hLP hlP HG H1
      go_wp2_with fail
      refine (H2.out _).mono ?_
      rintro e w7 ⟨h7, hb7⟩
      have HB7 := Hid.mk (HB6.out.trans (hb7.mono HB6.out.size))
      have HP7 := Hid.mk (HP.out _ hb7)
      rcases h7 with ⟨_, Q, MQ, rfl, LQ, hLQ, hlQ⟩ | ⟨hr, _⟩
      case inr => rw [HN2.out] at hr; cases hr
      have HQ : Hid (∀ w, Below w7.heap.size w7 w → Calls Tryz.prog 12 #[ptA Q 0, .string n, .int .i64 kind] w fun e w' => AnL w _ 0 e w') := fun w hb => HH.out _ w Q MQ LQ (hlQ.blk hb) hLQ
      clear hb7 HB6 hLQ hlQ HH H2 HP
      go_wp2_with fail
      refine HP7.out.mono ?_
      rintro e w8 ⟨⟨qg, cg, rfl⟩, hb8⟩
      have HB8 := Hid.mk (HB7.out.trans (hb8.mono HB7.out.size))
      have HQ8 := Hid.mk (HQ.out _ hb8)
      clear hb8 HB7 HQ HP7
      go_wp2_with fail
      refine HQ8.out.mono ?_
      rintro e w9 ⟨⟨qh, ch, rfl⟩, hb9⟩
      have HB9 := Hid.mk (HB8.out.trans (hb9.mono HB8.out.size))
      clear hb9 HB8 HQ8
      go_wp2_with fail
      refine (HU.out _).mono ?_
      rintro e w10 ⟨rfl, hb10⟩
      have hbb := HB9.out.trans (hb10.mono HB9.out.size)
      clear hb10
      go_wp2
      go_ret
      exact ⟨rfl, hbb⟩
  · have Hr := Hid.mk hr
    clear hr hb2
    go_wp2_with fail
    refine (H4.out _ HB2.out).mono ?_
    rintro e w3 ⟨h3, hb3⟩
    have HB3 := Hid.mk (HB2.out.trans (hb3.mono HB2.out.size))
    rcases h3 with ⟨hr, _⟩ | ⟨_, rfl⟩
    · rw [Hr.out] at hr; cases hr
    clear hb3
    go_wp2
    go_ret
    exact ⟨rfl, HB3.out⟩
end Go.Proofs.YtimnnogaiglceaaGreatDoor