/- Texts of this proof, joined: LdR, LdS, ZCas, LdU, LdW, LdX. -/
import Derived.Test.YtimnnogaiglceaaGreatDoorJ20
import Derived.Lib.ConvBytes
import Derived.Test.YtimnnogaiglceaaGreatDoorJ2
import Derived.Test.YtimnnogaiglceaaGreatDoorJ17
/- Layer 14: a zone by itself. -/
namespace Go.Proofs.YtimnnogaiglceaaGreatDoor
set_option linter.unusedVariables false
set_option linter.unusedSimpArgs false
open Go.RowKit
theorem okL_one (z : Lc) : okL [z] ↔ rightR z = true := ⟨fun h => h.1 z (by simp), fun h => ⟨fun x hx => by obtain rfl := List.mem_singleton.1 hx; exact h, by simp⟩⟩
theorem nearR_one (z : Lc) : ∀ n : N3, nearR [z] n = if lowN (lb z.nm) <:+ n then some z else none
  | [] => by
    rw [nearR, List.find?_cons, List.find?_nil]
    by_cases h : lowN (lb z.nm) = []
    · have : keyZ [] z = true := by unfold keyZ; exact decide_eq_true h
      rw [this, if_pos (by rw [h]; exact List.suffix_refl _)]
    · have : keyZ [] z = false := by unfold keyZ; exact decide_eq_false h
      rw [this, if_neg (by rw [List.suffix_nil]; exact h)]
  | l :: n => by
    rw [nearR, List.find?_cons, List.find?_nil]
    by_cases h : lowN (lb z.nm) = l :: n
    · have : keyZ (l :: n) z = true := by unfold keyZ; exact decide_eq_true h
      rw [this, if_pos (by rw [h]; exact List.suffix_refl _)]
    · have : keyZ (l :: n) z = false := by unfold keyZ; exact decide_eq_false h
      rw [this]
      simp only
      rw [nearR_one z n]
      simp only [List.suffix_cons_iff, h, false_or]
theorem lone_at {w : World} {b : Nat} {zone : ByteArray} {k : Int} {q : Option Addr} {cap : Nat} {rs : List Rc} (h : w.heap[b]? = some (.cells #[.string zone, .int .i64 k, .slice q rs.length cap] 26 (0, 0))) (hr : RcsAt w q rs) : LcsAt w (some ⟨b, 0, none⟩) [⟨zone, k, rs⟩] := by
  intro j hj
  have : j = 0 := by simp at hj; omega
  subst this
  exact ⟨b, 0, q, cap, rfl, (Array.getElem?_eq_some_iff.1 h).1, by rw [So.cell_blk h]; rfl, by rw [So.cell_blk h]; rfl, by rw [So.cell_blk h]; rfl, hr⟩
theorem lone_in {zone : ByteArray} {k : Int} {rs : List Rc} (h1 : zone.size ≤ maxLen) (h2 : RIn rs) (h3 : rs.length ≤ maxLen) (h4 : I64 k) : LIn [⟨zone, k, rs⟩] := by
  intro z hz
  obtain rfl := List.mem_singleton.1 hz
  exact ⟨h1, h2, h3, h4⟩
theorem ask_one {N : Nat} {w : World} {X M : Nat} {L : List (Nat × Lc)} {z : Lc} (h : Locs N w X M L) (hL : L.map Prod.snd = [z]) (hz : ZOk z) (s : ByteArray) (hs : s.size ≤ maxLen) (kind : Int) : Calls Tryz.prog 12 #[ptA X 0, .string s, .int .i64 kind] w fun e w' => AnP w (ansR [z] s kind) e w' := by
  have hz : ∀ p ∈ L, ZOk p.2 := fun p hp => by
    have hm : p.2 ∈ [z] := by rw [← hL]; exact List.mem_map_of_mem hp
    rw [List.mem_singleton.1 hm]; exact hz
  have := answer_in N w X M L h hz s hs kind
  rw [ansP_eq, hL] at this
  exact this
end Go.Proofs.YtimnnogaiglceaaGreatDoor
/- Layer 14: LocalKinds. -/
namespace Go.Proofs.YtimnnogaiglceaaGreatDoor
set_option linter.unusedVariables false
set_option linter.unusedSimpArgs false
open Go.RowKit
theorem new_one (V : World) (q : Option Addr) (cap : Nat) (rs : List Rc) (hat : RcsAt V q rs) (hin : RIn rs) (hlen : rs.length ≤ maxLen) (zone : ByteArray) (hz : zone.size ≤ maxLen) (k : Int) (hk : I64 k) : Calls Tryz.prog 7 #[.slice (some ⟨V.heap.size, 0, none⟩) 1 1] (V.alloc (.cells #[.string zone, .int .i64 k, .slice q rs.length cap] 26)) fun e w' => (rightR ⟨zone, k, rs⟩ = true ∧ (∃ X M, e = .returned (.tuple #[ptA X 0, .int .i64 0]) ∧ ∃ L : List (Nat × Lc), L.map Prod.snd = [⟨zone, k, rs⟩] ∧ Locs V.heap.size w' X M L) ∨ rightR ⟨zone, k, rs⟩ = false ∧ e = .returned (.tuple #[.pointer none, .int .i64 12])) ∧ Below V.heap.size V w' := by
  have bU : Below V.heap.size V (V.alloc (.cells #[.string zone, .int .i64 k, .slice q rs.length cap] 26)) := (Below.refl _ _).alloc (Nat.le_refl _) _
  have := new14_in (V.alloc (.cells #[.string zone, .int .i64 k, .slice q rs.length cap] 26)) (some ⟨V.heap.size, 0, none⟩) 1 [⟨zone, k, rs⟩] (lone_at (heap_alloc_new V _) (hat.blk bU)) (lone_in hz hin hlen hk) (by simp)
  refine this.mono ?_
  rintro e w' ⟨h, hb⟩
  refine ⟨?_, bU.trans (hb.mono bU.size)⟩
  rcases h with ⟨ho, X, M, he, L, hL, hl⟩ | ⟨ho, he⟩
  · refine .inl ⟨(okL_one _).1 ho, X, M, he, L, hL, ?_⟩
    refine ⟨Nat.le_trans bU.size hl.nX, Nat.le_trans bU.size hl.nM, hl.xb, hl.mp, fun p hp => ⟨?_, (hl.zs p hp).2⟩⟩
    obtain ⟨v, els, qz, cz, e1, e2⟩ := (hl.zs p hp).1.blk
    refine ⟨Nat.le_trans bU.size (hl.zs p hp).1.nZ, v, els, qz, cz, e1, e2.v, e2.le, fun h0 => ?_, e2.rel.mono fun e s hs => ⟨hs.ls, hs.ty, hs.cl, hs.tl, hs.sv, own_low hs.dv bU.size⟩⟩
    obtain ⟨g, e, hg, hr⟩ := e2.row h0
    exact ⟨g, e, Nat.le_trans bU.size hg, hr⟩
  · refine .inr ⟨?_, he⟩
    cases hr : rightR ⟨zone, k, rs⟩ with
    | false => rfl
    | true => exact absurd ((okL_one _).2 hr) ho
def AnL (W : World) (a : Int) (k : Nat) (e : Ending) (w' : World) : Prop := (∃ q c, e = .returned (.tuple #[.int .i64 a, .slice q k c])) ∧ Below W.heap.size W w'
theorem ask_len {N : Nat} {w : World} {X M : Nat} {L : List (Nat × Lc)} {z : Lc} (h : Locs N w X M L) (hL : L.map Prod.snd = [z]) (hz : ZOk z) (s : ByteArray) (hs : s.size ≤ maxLen) (kind : Int) {a : Int} {k : Nat} (ha : (ansR [z] s kind).1 = a) (hk : (ansR [z] s kind).2.length = k) : Calls Tryz.prog 12 #[ptA X 0, .string s, .int .i64 kind] w fun e w' => AnL w a k e w' := by
  refine (ask_one h hL hz s hs kind).mono ?_
  rintro e w' ⟨v, rfl, hs, hb⟩
  obtain ⟨q, c, hv⟩ := setsAt_len hs
  exact ⟨⟨q, c, by rw [ha, hv, hk]⟩, hb⟩
end Go.Proofs.YtimnnogaiglceaaGreatDoor
/- Cased. -/
namespace Go.Proofs.YtimnnogaiglceaaGreatDoor
set_option linter.unusedVariables false
set_option maxRecDepth 100000
open Go.RowKit
def isLowU (b : UInt8) : Bool := decide (97 ≤ b.toNat ∧ b.toNat ≤ 122)
def cntU (l : List UInt8) : Nat := (l.filter isLowU).length
def bitAtU (bits k : Nat) : Bool := decide (bits / 2 ^ (k % 64) % 2 = 1)
def casBU (bits k : Nat) (b : UInt8) : UInt8 := if isLowU b = true ∧ bitAtU bits k = true then UInt8.ofNat (b.toNat - 32) else b
def casGoU (bits : Nat) : Nat → List UInt8 → List UInt8
  | _, [] => []
  | k, b :: t => casBU bits k b :: casGoU bits (if isLowU b = true then k + 1 else k) t
theorem cnt_snocU (l : List UInt8) (b : UInt8) : cntU (l ++ [b]) = cntU l + if isLowU b = true then 1 else 0 := by
  unfold cntU; rw [List.filter_append]
  by_cases h : isLowU b = true <;> simp [h]
theorem cnt_leU (l : List UInt8) : cntU l ≤ l.length := List.length_filter_le _ _
theorem cnt_consU (b : UInt8) (l : List UInt8) : cntU (b :: l) = (if isLowU b = true then 1 else 0) + cntU l := by
  unfold cntU
  by_cases h : isLowU b = true
  · simp [h]; omega
  · simp [h]
theorem casGo_snocU (bits : Nat) : ∀ (l : List UInt8) (k : Nat) (b : UInt8), casGoU bits k (l ++ [b]) = casGoU bits k l ++ [casBU bits (k + cntU l) b]
  | [], k, b => by simp [casGoU, cntU]
  | c :: l, k, b => by
    rw [List.cons_append, casGoU, casGo_snocU bits l, casGoU, cnt_consU]
    by_cases h : isLowU c = true
    · simp [h]; congr 1; omega
    · simp [h]
theorem casGo_lengthU (bits : Nat) : ∀ (l : List UInt8) (k : Nat), (casGoU bits k l).length = l.length
  | [], k => rfl
  | c :: l, k => by simp [casGoU, casGo_lengthU bits l]
def casToU (bits : Nat) (l : List UInt8) (k : Nat) : List UInt8 := casGoU bits 0 (l.take k) ++ l.drop k
theorem casTo_zeroU (bits : Nat) (l : List UInt8) : casToU bits l 0 = l := by simp [casToU, casGoU]
theorem casTo_allU (bits : Nat) (l : List UInt8) (k : Nat) (h : l.length ≤ k) : casToU bits l k = casGoU bits 0 l := by simp [casToU, List.take_of_length_le h, List.drop_of_length_le h]
theorem casTo_lengthU (bits : Nat) (l : List UInt8) (k : Nat) : (casToU bits l k).length = l.length := by simp [casToU, casGo_lengthU]; omega
theorem casTo_getU (bits : Nat) (l : List UInt8) (k : Nat) (h : k < l.length) : (casToU bits l k)[k]'(by rw [casTo_lengthU]; exact h) = l[k] := by
  have h1 : (casGoU bits 0 (l.take k)).length = k := by rw [casGo_lengthU]; simp; omega
  unfold casToU
  rw [List.getElem_append_right (by omega)]
  simp [h1]
theorem casTo_succU (bits : Nat) (l : List UInt8) (k : Nat) (h : k < l.length) : (casToU bits l k).set k (casBU bits (cntU (l.take k)) l[k]) = casToU bits l (k + 1) := by
  have h1 : (casGoU bits 0 (l.take k)).length = k := by rw [casGo_lengthU]; simp; omega
  unfold casToU
  rw [List.set_append_right _ _ (by omega), h1, Nat.sub_self, List.drop_eq_getElem_cons h, List.take_succ_eq_append_getElem h, List.set_cons_zero, casGo_snocU, Nat.zero_add, List.append_assoc]
  rfl
theorem casTo_sameU (bits : Nat) (l : List UInt8) (k : Nat) (h : k < l.length) (he : casBU bits (cntU (l.take k)) l[k] = l[k]) : casToU bits l (k + 1) = casToU bits l k := by
  rw [← casTo_succU bits l k h, he]
  have := casTo_getU bits l k h
  conv => lhs; rw [← this]
  exact List.set_getElem_self _
theorem bit_testU (x m : Nat) (h : x < 18446744073709551616) : (Go.bits BinOp.and IntKind.u64 ((x : Int) / 2 ^ (m % 64)) 1 == 1) = bitAtU x m := by
  have e : ((x : Int) / 2 ^ (m % 64)) = ((x / 2 ^ (m % 64) : Nat) : Int) := by
    rw [Int.natCast_ediv, Int.natCast_pow]; rfl
  have hle : x / 2 ^ (m % 64) ≤ x := Nat.div_le_self _ _
  rw [e, bitAtU]
  generalize x / 2 ^ (m % 64) = y at hle ⊢
  rw [and_one_u64 _ (by omega) (by omega), Bool.eq_iff_iff, beq_iff_eq, decide_eq_true_iff]
  omega
theorem bytesWorld_bytesU (w : World) (s : ByteArray) : BytesAt (Lib.bytesWorld w 5 s) w.heap.size s.data.toList := by
  intro j hj
  refine ⟨?_, ?_⟩
  · rw [Lib.bytesWorld_cell w 5 s j (by rw [size_list] at hj; exact hj)]
    rw [show s.data.toList.getD j 0 = s.data.toList[j] by rw [List.getD_eq_getElem?_getD, List.getElem?_eq_getElem hj]; rfl]
  · have hj' : j < s.size := by rw [size_list] at hj; exact hj
    have hc : s.size ≤ (Lib.bytesCells w 5 s).size := by simp [Lib.bytesCells]
    simp [World.frozen?, Lib.bytesWorld_at_new]
    omega
theorem below_bytesU (w : World) (s : ByteArray) : Below w.heap.size w (Lib.bytesWorld w 5 s) :=
  ⟨rfl, rfl, rfl, by rw [Lib.bytesWorld_size]; omega, fun k hk => Lib.bytesWorld_at_old w 5 s k hk⟩
set_option maxHeartbeats 1000000 in
theorem cased_yes (ls : List (List UInt8)) (ho : OkN ls) (bits : Nat) (hbits : bits < 18446744073709551616) (w : World) :
    Calls Tryz.prog 15 #[.string (nm ls), .int .u64 (bits : Int)] w fun e w' => e = .returned (.tuple #[.string ⟨(casGoU bits 0 (nm (lowN ls)).data.toList).toArray⟩, .int .i64 0]) ∧ Below w.heap.size w w' := by
  have hz : (nm (lowN ls)).size ≤ 255 := by rw [nm_size]; have := ho.low.len; omega
  have hcv := fun W : World => Lib.run_convert_string_bytes (P := Tryz.prog) W 9 68 5 (nm (lowN ls)) Tryz.underlying9 Tryz.underlying68 Tryz.underlying5
  obtain ⟨s, hs⟩ : ∃ s, nm (lowN ls) = s := ⟨_, rfl⟩
  have HB := Hid.mk hbits
  clear hbits
  go_enter Tryz.func15, Tryz.ntmps15
  go_wp2_with fail
  refine (right_yes ls ho _).mono ?_
  rintro e w1 ⟨rfl, hb1⟩
  go_wp2_with fail
  refine (lowered_nm ls ho _).mono ?_
  rintro e w2 ⟨rfl, hb2⟩
  rw [hs] at hcv hz ⊢
  go_wp2_with fail
  clear hcv
  have hby0 := bytesWorld_bytesU w2 s
  have hbe0 := below_bytesU w2 s
  go_loopw [7, 18] (fun n i wr => ∃ k : Nat, k ≤ s.size ∧ i = .int .i64 k ∧ n = .int .i64 (cntU (s.data.toList.take k) : Nat) ∧ BytesAt wr w2.heap.size (casToU bits s.data.toList k) ∧ Below w2.heap.size w2 wr) (fun _ i _ => s.size - (intOf i).toNat)
  case atStart => exact ⟨0, Nat.zero_le _, rfl, by simp [cntU], by rw [casTo_zeroU]; exact hby0, hbe0⟩
  case round =>
    clear hby0 hbe0
    obtain ⟨k, hk, rfl, rfl, hby, hbl⟩ := hrel
    by_cases hlt : k < s.size
    · have hlt' : k < s.data.toList.length := by rw [size_list]; exact hlt
      have hj := hby k (by rw [casTo_lengthU]; exact hlt')
      rw [casTo_getU _ _ _ hlt'] at hj
      obtain ⟨hc, hf⟩ := hj
      have hn := (hby.set k (casBU bits (cntU (s.data.toList.take k)) s.data.toList[k]))
      rw [casTo_succU _ _ _ hlt'] at hn
      have hsame := casTo_sameU bits s.data.toList k hlt'
      have hcn : cntU (s.data.toList.take k) ≤ 255 := by have := cnt_leU (s.data.toList.take k); simp at this; omega
      have hcs := cnt_snocU (s.data.toList.take k) s.data.toList[k]
      rw [← List.take_succ_eq_append_getElem hlt'] at hcs
      have HC := Hid.mk hcs
      have HN := Hid.mk hn
      have HS := Hid.mk hsame
      clear hn hsame hcs
      generalize s.data.toList[k] = c at hc HN HS HC
      generalize hm : cntU (s.data.toList.take k) = m at hcn HN HS HC ⊢
      have HM := Hid.mk hm
      clear hm
      have hc8 := c.toNat_lt
      by_cases h1 : 97 ≤ c.toNat
      · by_cases h2 : c.toNat ≤ 122
        · have hlow : isLowU c = true := by simp [isLowU, h1, h2]
          have hm1 : cntU (s.data.toList.take (k + 1)) = m + 1 := by rw [HC.out, hlow]; simp
          have HM1 := Hid.mk hm1
          have hbt := bit_testU bits m HB.out
          by_cases hbit : bitAtU bits m = true
          · have hcb : ((casBU bits m c).toNat : Int) = (c.toNat : Int) - 32 := by
              unfold casBU; rw [if_pos ⟨hlow, hbit⟩]; simp; omega
            have HN1 := HN.out
            rw [hcb] at HN1
            have HN2 := Hid.mk HN1
            rw [hbit] at hbt
            clear HN1 hcb hbit hlow hm1
            go_wp2
            exact ⟨⟨k + 1, by omega, by go_num, by rw [HM1.out]; go_num, HN2.out, hbl.setCell (p := ⟨w2.heap.size, k, none⟩) (Nat.le_refl _) _⟩, by simp [intOf]; omega⟩
          · have e : casToU bits s.data.toList (k + 1) = casToU bits s.data.toList k := HS.out (by simp [casBU, hbit])
            have HE := Hid.mk e
            have hbit' : bitAtU bits m = false := by simpa using hbit
            rw [hbit'] at hbt
            clear e hbit hbit' hlow hm1
            go_wp2
            exact ⟨⟨k + 1, by omega, by go_num, by rw [HM1.out]; go_num, by rw [HE.out]; exact hby, hbl⟩, by simp [intOf]; omega⟩
        · have hlow : isLowU c = false := by simp [isLowU]; omega
          have e : casToU bits s.data.toList (k + 1) = casToU bits s.data.toList k := HS.out (by simp [casBU, hlow])
          have hm1 : cntU (s.data.toList.take (k + 1)) = m := by rw [HC.out, hlow]; simp
          have HE := Hid.mk e
          have HM1 := Hid.mk hm1
          clear e hm1 hlow
          go_wp2
          go_roundw
          case rel => exact ⟨k + 1, by omega, by go_num, by rw [HM1.out], by rw [HE.out]; exact hby, hbl⟩
          case measure => simp [intOf]; omega
      · have hlow : isLowU c = false := by simp [isLowU]; omega
        have e : casToU bits s.data.toList (k + 1) = casToU bits s.data.toList k := HS.out (by simp [casBU, hlow])
        have hm1 : cntU (s.data.toList.take (k + 1)) = m := by rw [HC.out, hlow]; simp
        have HE := Hid.mk e
        have HM1 := Hid.mk hm1
        clear e hm1 hlow
        go_wp2
        go_roundw
        case rel => exact ⟨k + 1, by omega, by go_num, by rw [HM1.out], by rw [HE.out]; exact hby, hbl⟩
        case measure => simp [intOf]; omega
    · have hfin : casToU bits s.data.toList k = casGoU bits 0 s.data.toList := casTo_allU _ _ _ (by rw [size_list]; omega)
      rw [hfin] at hby
      have hcv := run_convert_bytes_back (P := Tryz.prog) wr 68 9 5 ⟨w2.heap.size, 0, none⟩ (grownCap w2 s.size 0 5) (casGoU bits 0 s.data.toList) Tryz.underlying68 Tryz.underlying5 Tryz.underlying9 (fun j hj => by rw [add_at]; exact (hby j hj).1)
      rw [casGo_lengthU, size_list] at hcv
      clear hfin hby
      go_wp2
      go_ret2
      exact ⟨by rw [hs]; rfl, bthen hb1 (bthen hb2 hbl)⟩
end Go.Proofs.YtimnnogaiglceaaGreatDoor
/- Layer 14: what letters change. -/
namespace Go.Proofs.YtimnnogaiglceaaGreatDoor
set_option linter.unusedVariables false
set_option linter.unusedSimpArgs false
open Go.RowKit
theorem casGo_appendU (bits : Nat) : ∀ (l r : List UInt8) (k : Nat), casGoU bits k (l ++ r) = casGoU bits k l ++ casGoU bits (k + cntU l) r
  | [], r, k => by simp [casGoU, cntU]
  | b :: l, r, k => by
    rw [List.cons_append, casGoU, casGoU, casGo_appendU bits l r, cnt_consU]
    by_cases h : isLowU b = true
    · simp [h]; congr 1; omega
    · simp [h]
theorem casB_lowU {b : UInt8} (h : lowB b = b) (bits k : Nat) : lowB (casBU bits k b) = b := by
  unfold casBU
  split
  · rename_i hc
    have hb := hc.1
    simp only [isLowU, decide_eq_true_iff] at hb
    have e : (UInt8.ofNat (b.toNat - 32)).toNat = b.toNat - 32 := by simp; omega
    apply UInt8.toNat_inj.1
    rw [lowB_toNat, e, if_pos (by omega)]; omega
  · exact h
theorem casGo_lowU (bits : Nat) : ∀ (l : List UInt8) (k : Nat), l.map lowB = l → (casGoU bits k l).map lowB = l
  | [], _, _ => rfl
  | b :: l, k, h => by
    simp only [List.map_cons, List.cons.injEq] at h
    simp only [casGoU, List.map_cons, casB_lowU h.1, casGo_lowU bits l _ h.2]
theorem casB_lenU {n : Nat} (h : n ≤ 63) (bits k : Nat) : casBU bits k (UInt8.ofNat n) = UInt8.ofNat n ∧ isLowU (UInt8.ofNat n) = false := by
  have e : (UInt8.ofNat n).toNat = n := by simp; omega
  have hl : isLowU (UInt8.ofNat n) = false := by simp only [isLowU, e, decide_eq_false_iff_not]; omega
  refine ⟨?_, hl⟩
  unfold casBU; rw [hl, if_neg (by simp)]
def casNU (bits : Nat) : Nat → List (List UInt8) → List (List UInt8)
  | _, [] => []
  | k, l :: ls => casGoU bits k l :: casNU bits (k + cntU l) ls
theorem casGo_flatU (bits : Nat) : ∀ (ls : List (List UInt8)) (k : Nat) (r : List UInt8), (∀ l ∈ ls, l.length ≤ 63) → ∃ j, casGoU bits k (flat ls ++ r) = flat (casNU bits k ls) ++ casGoU bits j r
  | [], k, r, _ => ⟨k, rfl⟩
  | l :: ls, k, r, h => by
    have hl := h l (by simp)
    obtain ⟨j, hj⟩ := casGo_flatU bits ls (k + cntU l) r (fun x hx => h x (by simp [hx]))
    refine ⟨j, ?_⟩
    have hc := casB_lenU hl bits k
    simp only [flat, casNU, List.cons_append, casGoU, hc.1, hc.2, casGo_lengthU]
    rw [List.append_assoc, casGo_appendU, if_neg (by simp), hj]
    simp
theorem casN_lenU (bits : Nat) : ∀ (ls : List (List UInt8)) (k : Nat), (flat (casNU bits k ls)).length = (flat ls).length ∧ (∀ l ∈ casNU bits k ls, ∃ m ∈ ls, l.length = m.length)
  | [], _ => ⟨rfl, by simp [casNU]⟩
  | l :: ls, k => by
    have ih := casN_lenU bits ls (k + cntU l)
    refine ⟨?_, ?_⟩
    · simp [casNU, flat, casGo_lengthU, ih.1]
    · intro x hx
      simp only [casNU, List.mem_cons] at hx
      rcases hx with rfl | hx
      · exact ⟨l, by simp, casGo_lengthU _ _ _⟩
      · obtain ⟨m, hm, e⟩ := ih.2 x hx
        exact ⟨m, by simp [hm], e⟩
theorem casN_lowU (bits : Nat) : ∀ (ls : List (List UInt8)) (k : Nat), lowN ls = ls → lowN (casNU bits k ls) = ls
  | [], _, _ => rfl
  | l :: ls, k, h => by
    have h' : l.map lowB = l ∧ lowN ls = ls := by simpa [lowN] using h
    have ih := casN_lowU bits ls (k + cntU l) h'.2
    show (casGoU bits k l).map lowB :: lowN (casNU bits (k + cntU l) ls) = _
    rw [casGo_lowU bits l k h'.1, ih]
theorem lowB_idemU (b : UInt8) : lowB (lowB b) = lowB b := by
  apply UInt8.toNat_inj.1
  rw [lowB_toNat, lowB_toNat]
  split
  · rw [if_neg (by omega)]
  · rfl
theorem lowN_idemU (ls : List (List UInt8)) : lowN (lowN ls) = lowN ls := by
  simp [lowN, lowB_idemU]
theorem cas_name {ls : List (List UInt8)} (ho : OkN ls) (bits : Nat) : ∃ cs, OkN cs ∧ lowN cs = lowN ls ∧ (⟨(casGoU bits 0 (nm (lowN ls)).data.toList).toArray⟩ : ByteArray) = nm cs := by
  refine ⟨casNU bits 0 (lowN ls), ?_, ?_, ?_⟩
  · have h := casN_lenU bits (lowN ls) 0
    refine ⟨fun l hl => ?_, by rw [h.1]; exact ho.low.len⟩
    obtain ⟨m, hm, e⟩ := h.2 l hl
    rw [e]; exact ho.low.lab m hm
  · exact casN_lowU bits _ 0 (lowN_idemU ls)
  · apply ba_ext
    rw [ba_toList, nm_list, nm_list, nmL, nmL]
    obtain ⟨j, hj⟩ := casGo_flatU bits (lowN ls) 0 [0] (fun l hl => (ho.low.lab l hl).2)
    rw [hj]
    rfl
/-! ### what is told goes by small letters -/
theorem cmp_low {s a b : N3} (h : lowN a = lowN b) : cmpN s a = cmpN s b := by unfold cmpN; rw [h]
theorem eq_low {s a b : N3} (h : lowN a = lowN b) : eqB s a = eqB s b := by unfold eqB; rw [h]
theorem eq_low' {s a b : N3} (h : lowN a = lowN b) : eqB a s = eqB b s := by unfold eqB; rw [h]
theorem und_low {s a b : N3} (h : lowN a = lowN b) : undB s a = undB s b := by
  rw [Bool.eq_iff_iff, undB_iff, undB_iff, h]
theorem fst_low {ss : List St} {a b : N3} (h : lowN a = lowN b) : fstR ss a = fstR ss b := by
  unfold fstR
  simp only [cmp_low h]
theorem own_low' {ss : List St} {a b : N3} (h : lowN a = lowN b) : ownR ss a = ownR ss b := by
  unfold ownR
  simp only [eq_low h, fst_low h]
theorem has_low {ss : List St} {a b : N3} (h : lowN a = lowN b) : hasR ss a = hasR ss b := by
  unfold hasR
  rw [fst_low h]
  cases ss[fstR ss b]? with
  | none => rfl
  | some s => exact und_low h
structure Alk (a b : N3) (x y : Int × List St) : Prop where
  code : x.1 = y.1
  rel : F2 (fun s t : St => s.ls = a ∧ t.ls = b ∧ s.ty = t.ty ∧ s.ds = t.ds) x.2 y.2
theorem Alk.nil {a b : N3} (c : Int) : Alk a b (c, []) (c, []) := ⟨rfl, trivial⟩
theorem chos_alk (ss : List St) (a b : N3) (kind : Int) : Alk a b (chosR ss a kind) (chosR ss b kind) := by
  unfold chosR
  split
  · exact Alk.nil _
  · refine ⟨rfl, ?_⟩
    simp only
    induction ss.filter (picks kind) with
    | nil => exact trivial
    | cons s l ih => exact ⟨⟨rfl, rfl, rfl, rfl⟩, ih⟩
theorem stc_alk (ss : List St) {a b : N3} (h : lowN a = lowN b) (zn : N3) (kind : Int) : Alk a b (stcR ss a zn kind) (stcR ss b zn kind) := by
  unfold stcR thrR
  rw [has_low h, eq_low' h, own_low' h]
  split
  · exact chos_alk _ _ _ _
  · exact Alk.nil _
theorem ansZ_alk (z : Lc) {a b : N3} (h : lowN a = lowN b) (kind : Int) : Alk a b (ansZ z a kind) (ansZ z b kind) := by
  unfold ansZ
  split
  · exact Alk.nil _
  split
  · exact Alk.nil _
  split
  · exact stc_alk _ h _ _
  split
  · have hs := stc_alk (zsets z.rs) h (lb z.nm) kind
    unfold trsR
    rw [hs.code]
    split
    · exact Alk.nil _
    · exact hs
  · exact chos_alk _ _ _ _
theorem ansR_alk (zs : List Lc) {a b : N3} (ha : OkN a) (hb : OkN b) (h : lowN a = lowN b) (kind : Int) : Alk a b (ansR zs (nm a) kind) (ansR zs (nm b) kind) := by
  unfold ansR near
  rw [isN_yes ⟨a, ha, rfl⟩, isN_yes ⟨b, hb, rfl⟩, lb_nm ha, lb_nm hb, h]
  simp only [if_true]
  cases nearR zs (lowN b) with
  | none => exact Alk.nil _
  | some z => exact ansZ_alk z h kind
theorem near_mem {zs : List Lc} : ∀ {n : N3} {z : Lc}, nearR zs n = some z → z ∈ zs ∧ lowN (lb z.nm) <:+ n
  | [], z, h => by
    rw [nearR] at h
    have hk := List.find?_some h
    unfold keyZ at hk
    rw [of_decide_eq_true hk]
    exact ⟨List.mem_of_find?_eq_some h, List.suffix_refl _⟩
  | l :: n, z, h => by
    rw [nearR] at h
    split at h
    · rename_i q hq
      cases h
      have hk := List.find?_some hq
      unfold keyZ at hk
      rw [of_decide_eq_true hk]
      exact ⟨List.mem_of_find?_eq_some hq, List.suffix_refl _⟩
    · obtain ⟨h1, h2⟩ := near_mem h
      exact ⟨h1, h2.trans (List.suffix_cons _ _)⟩
theorem near_alone {zs : List Lc} {s : ByteArray} {z : Lc} (h : near zs s = some z) (kind : Int) : ansR [z] s kind = ansR zs s kind := by
  unfold ansR
  rw [h]
  unfold near at h ⊢
  split at h
  · rename_i hn
    rw [if_pos hn, nearR_one, if_pos (near_mem h).2]
  · cases h
theorem near_same {zs : List Lc} (hok : okL zs) {z y : Lc} (hz : z ∈ zs) (hy : y ∈ zs) (h : eqF y.nm z.nm = true) : y = z := by
  obtain ⟨h1, h2⟩ := lb_ok (zone_ty (hok.1 z hz)).1
  obtain ⟨g1, g2⟩ := lb_ok (zone_ty (hok.1 y hy)).1
  have e : eqB (lb y.nm) (lb z.nm) = true := by
    rw [← eqF_nm g1 h1, ← g2, ← h2]
    exact h
  have hk : zk y = zk z := by
    unfold zk
    unfold eqB at e
    rw [of_decide_eq_true e]
  obtain ⟨i, hi, rfl⟩ := List.getElem_of_mem hy
  obtain ⟨j, hj, rfl⟩ := List.getElem_of_mem hz
  have hp := List.pairwise_iff_getElem.1 hok.2
  rcases Nat.lt_trichotomy i j with hlt | he | hlt
  · exact absurd hk (hp i j hi hj hlt)
  · subst he; rfl
  · exact absurd hk.symm (hp j i hj hi hlt)
end Go.Proofs.YtimnnogaiglceaaGreatDoor
/- Layer 14: LocalNear. -/
namespace Go.Proofs.YtimnnogaiglceaaGreatDoor
set_option linter.unusedVariables false
set_option linter.unusedSimpArgs false
open Go.RowKit
theorem nearP_snd (L : List (Nat × Lc)) (s : ByteArray) : (nearP L s).map Prod.snd = near (L.map Prod.snd) s := by
  unfold nearP near
  split
  · exact nearL_snd _ _
  · rfl
theorem ask_any {N : Nat} {w : World} {X M : Nat} {L : List (Nat × Lc)} {l : List Lc} (h : Locs N w X M L) (hL : L.map Prod.snd = l) (hl : ∀ z ∈ l, ZOk z) (s : ByteArray) (hs : s.size ≤ maxLen) (kind : Int) : Calls Tryz.prog 12 #[ptA X 0, .string s, .int .i64 kind] w fun e w' => AnP w (ansR l s kind) e w' := by
  have hz : ∀ p ∈ L, ZOk p.2 := fun p hp => hl _ (by rw [← hL]; exact List.mem_map_of_mem hp)
  have := answer_in N w X M L h hz s hs kind
  rw [ansP_eq, hL] at this
  exact this
theorem ans_data (zs : List Lc) (s : ByteArray) (kind : Int) : ((ansR zs s kind).1 = 3 ∧ 0 < (ansR zs s kind).2.length) ∨ (¬ (ansR zs s kind).1 = 3 ∧ (ansR zs s kind).2.length = 0) := by
  have hc : ∀ ss n k, ((chosR ss n k).1 = 3 ∧ 0 < (chosR ss n k).2.length) ∨ (¬ (chosR ss n k).1 = 3 ∧ (chosR ss n k).2.length = 0) := fun ss n k => by
    rcases chosR_code ss n k with ⟨h1, h2⟩ | ⟨h1, h2⟩
    · exact .inr ⟨by rw [h1]; decide, by rw [h2]; rfl⟩
    · exact .inl ⟨h1, h2⟩
  have hs : ∀ ss n zn k, ((stcR ss n zn k).1 = 3 ∧ 0 < (stcR ss n zn k).2.length) ∨ (¬ (stcR ss n zn k).1 = 3 ∧ (stcR ss n zn k).2.length = 0) := fun ss n zn k => by
    rcases stcR_code ss n zn k with ⟨h1, h2⟩ | ⟨h1, h2⟩ | ⟨h1, h2⟩
    · exact .inr ⟨by rw [h1]; decide, by rw [h2]; rfl⟩
    · exact .inr ⟨by rw [h1]; decide, by rw [h2]; rfl⟩
    · exact .inl ⟨h1, h2⟩
  unfold ansR
  cases near zs s with
  | none => exact .inr ⟨(by decide : ¬ (0 : Int) = 3), rfl⟩
  | some z =>
    simp only
    unfold ansZ
    split
    · exact .inr ⟨by decide, rfl⟩
    split
    · exact .inr ⟨by decide, rfl⟩
    split
    · exact hs _ _ _ _
    split
    · unfold trsR
      split
      · exact .inr ⟨by decide, rfl⟩
      · exact hs _ _ _ _
    · exact hc _ _ _
theorem cell_of {N : Nat} {w : World} {v : Value} {ss : List St} (h : SetsAt N w v ss) (i : Nat) (hi : i < ss.length) : ∃ g cap qd cd, v = .slice (some ⟨g, 0, none⟩) ss.length cap ∧ w.cell? ⟨g, i * 6, none⟩ = some (.string (nm ss[i].ls)) ∧ w.cell? ⟨g, i * 6 + 1, none⟩ = some (.int .i64 ss[i].ty) ∧ w.cell? ⟨g, i * 6 + 4, none⟩ = some (.slice qd ss[i].ds.length cd) := by
  obtain ⟨els, hr, hf⟩ := h
  have hl := hf.len
  have hi' : i < els.length := by omega
  obtain ⟨g, cap, hv, _, hs⟩ := srow_form hr (by omega)
  have he := hf.at i hi' hi
  obtain ⟨qd, cd, hd⟩ := srow_any he.dv
  refine ⟨g, cap, qd, cd, by rw [hv, hl], ?_, ?_, ?_⟩
  · have := hs.cell i hi' 0 (by decide)
    rw [Nat.add_zero] at this
    rw [this, ← he.ls]; rfl
  · rw [hs.cell i hi' 1 (by decide), ← he.ty]; rfl
  · rw [hs.cell i hi' 4 (by decide), ← hd]; rfl
theorem F2.len' {a b : N3} {x y : Int × List St} (h : Alk a b x y) : x.2.length = y.2.length := h.rel.len
end Go.Proofs.YtimnnogaiglceaaGreatDoor
/- Layer 14: LocalNear's walk. -/
namespace Go.Proofs.YtimnnogaiglceaaGreatDoor
set_option linter.unusedVariables false
set_option linter.unusedSimpArgs false
open Go.RowKit
theorem setsAt_le {N : Nat} {w : World} {v : Value} {ss : List St} (h : SetsAt N w v ss) : ss.length ≤ 9223372036854775807 := by
  obtain ⟨els, hr, hf⟩ := h
  rw [← hf.len]
  obtain ⟨_, ⟨_, h0⟩ | ⟨g, cap, cur, hv, hg0, hg, hn, hm, _⟩⟩ := hr
  · omega
  · unfold maxLen at hm; omega
set_option maxRecDepth 100000 in
set_option maxHeartbeats 8000000 in
theorem near_walk (q : Option Addr) (cap : Nat) (l : List Lc) (hin : LIn l) (hsh : l.length ≤ cap ∧ cap ≤ maxLen ∧ (q = none → cap = 0)) (n : ByteArray) (hn : n.size ≤ maxLen) (kind : Int) (bits : Nat) (hbits : bits < 18446744073709551616) (W : World) (hat : LcsAt W q l) :
    Calls Tryz.prog 4 #[.slice q l.length cap, .string n, .int .i64 kind, .int .u64 (bits : Int)] W fun e w' => e = .returned (.bool true) ∧ Below W.heap.size W w' := by
  have HE := Hid.mk (examples14_in W)
  obtain ⟨m, hm⟩ : ∃ m, l.length = m := ⟨_, rfl⟩
  rw [hm] at hsh ⊢
  obtain ⟨k, hk⟩ : ∃ k : Nat, min m 12 = k := ⟨_, rfl⟩
  have hmn : min (m : Int) 12 = (k : Int) := by omega
  have hkc : (k : Int) ≤ (cap : Int) := by omega
  have hk12 : k ≤ 12 := by omega
  obtain ⟨l', hl'⟩ : ∃ l', l.take 12 = l' := ⟨_, rfl⟩
  have hlk : l'.length = k := by rw [← hl', List.length_take, hm]; omega
  have HAt : Hid (∀ w, Below W.heap.size W w → LcsAt w q l') := fun w hb => by rw [← hl']; exact (hat.blk hb).take 12
  have HIn : Hid (LIn l') := fun z hz => hin z (by rw [← hl'] at hz; exact List.mem_of_mem_take hz)
  have HLk := Hid.mk hlk
  clear hin hat hm hl' hlk hsh hk
  have HNw : Hid (∀ w, Below W.heap.size W w → Calls Tryz.prog 7 #[.slice q k cap] w fun e w' => NewP w.heap.size w l' e w') := fun w hb => by
    have := new14_in w q cap l' (HAt.out w hb) HIn.out (by rw [HLk.out]; omega)
    rw [HLk.out] at this
    exact this
  go_enter Tryz.func4, Tryz.ntmps4
  go_wp2_with fail
  refine HE.out.mono ?_
  rintro e w1 ⟨rfl, hb1⟩
  have HB1 := Hid.mk hb1
  clear hb1 HE
  go_wp2_with fail
  refine (HNw.out _ HB1.out).mono ?_
  rintro e w2 ⟨h2, hb2⟩
  have HB2 := Hid.mk (HB1.out.trans (hb2.mono HB1.out.size))
  clear hb2 HNw
  rcases h2 with ⟨hok, X, M, rfl, L, hL, hl2⟩ | ⟨_, rfl⟩
  case inr =>
    go_wp2
    go_ret
    exact ⟨rfl, HB2.out⟩
  have HZ : Hid (∀ z ∈ l', ZOk z) := fun z hz => ⟨(HIn.out z hz).2.1, hok.1 z hz⟩
  have HOk := Hid.mk hok
  have HLm := Hid.mk hL
  have HL2 := Hid.mk hl2
  have HAsk : Hid (∀ N w, Locs N w X M L → ∀ s : ByteArray, s.size ≤ maxLen → Calls Tryz.prog 12 #[ptA X 0, .string s, .int .i64 kind] w fun e w' => AnP w (ansR l' s kind) e w') := fun N w hw s hs => ask_any hw HLm.out HZ.out s hs kind
  clear hok hL hl2
  go_wp2_with fail
  refine (HAsk.out _ _ HL2.out n hn).mono ?_
  rintro e w3 ⟨v3, rfl, hs3, hb3⟩
  have HB3 := Hid.mk (HB2.out.trans (hb3.mono HB2.out.size))
  have HL3 := Hid.mk (HL2.out.blk hb3)
  obtain ⟨q3, c3, hv3⟩ := setsAt_len hs3
  have HS3 := Hid.mk hs3
  subst hv3
  obtain ⟨a, ha⟩ : ∃ a, (ansR l' n kind).1 = a := ⟨_, rfl⟩
  obtain ⟨ks, hks⟩ : ∃ ks, (ansR l' n kind).2.length = ks := ⟨_, rfl⟩
  rw [ha, hks]
  rw [hks] at HS3
  have HA := Hid.mk ha
  have HK := Hid.mk hks
  clear hb3 hs3 HB2 HL2 HB1 ha hks
  go_wp2_with fail
  refine (zone14_in _ _ X M L HL3.out n hn).mono ?_
  rintro e w4 ⟨rfl, hb4⟩
  have HB4 := Hid.mk (HB3.out.trans (hb4.mono HB3.out.size))
  have HL4 := Hid.mk (HL3.out.blk hb4)
  have HS4 := Hid.mk (HS3.out.blk hb4)
  have hns := nearP_snd L n
  rw [HLm.out] at hns
  clear hb4 HB3 HL3 HS3
  cases hp : nearP L n with
  | none =>
    rw [hp] at hns
    have h0 : ansR l' n kind = (0, []) := by unfold ansR; rw [← hns]; rfl
    have ea := HA.out
    have ek := HK.out
    rw [h0] at ea ek
    subst ea
    obtain rfl : 0 = ks := ek
    clear hns h0 hp
    go_wp2
    go_ret
    exact ⟨rfl, HB4.out⟩
  | some p =>
    rw [hp] at hns
    obtain ⟨hpm, hnm⟩ := nearP_mem hp
    obtain ⟨N4, zz⟩ := p
    have hzm : zz ∈ l' := by rw [← HLm.out]; exact List.mem_map_of_mem hpm
    have hnear : near l' n = some zz := hns.symm
    have HEq : Hid (∀ z' ∈ l', ∀ w, Calls Tryz.prog 14 #[.string z'.nm, .string zz.nm] w fun e w' => e = .returned (.bool (eqF z'.nm zz.nm)) ∧ Below w.heap.size w w') := fun z' hz' w => nequal_in _ _ (HIn.out z' hz').1 (HIn.out zz hzm).1 w
    have HSm : Hid (∀ z' ∈ l', eqF z'.nm zz.nm = true → z' = zz) := fun z' hz' h => near_same HOk.out hzm hz' h
    have HBL : Hid (∀ w i, i < k → Below W.heap.size W w → ∃ b off, q = some ⟨b, off, none⟩ ∧ ∃ (z' : Lc) (qr : Option Addr) (cr : Nat), Hid (z' ∈ l' ∧ RcsAt w qr z'.rs) ∧ w.cell? ⟨b, off + i * 3, none⟩ = some (.string z'.nm) ∧ w.cell? ⟨b, off + i * 3 + 1, none⟩ = some (.int .i64 z'.kd) ∧ w.cell? ⟨b, off + i * 3 + 2, none⟩ = some (.slice qr z'.rs.length cr)) := by
      intro w i hi hb
      obtain ⟨b, off, qr, cr, e, _, c0, c1, c2, hr⟩ := HAt.out w hb i (by rw [HLk.out]; exact hi)
      exact ⟨b, off, e, _, qr, cr, ⟨List.getElem_mem _, hr⟩, c0, c1, c2⟩
    have HNew : Hid (∀ V qr cr, RcsAt V qr zz.rs → _) := fun V qr cr hr => new_one V qr cr zz.rs hr (HIn.out zz hzm).2.1 (HIn.out zz hzm).2.2.1 zz.nm (HIn.out zz hzm).1 zz.kd (HIn.out zz hzm).2.2.2
    have HOne : Hid (∀ N w Y M' L', Locs N w Y M' L' → L'.map Prod.snd = [zz] → Calls Tryz.prog 12 #[ptA Y 0, .string n, .int .i64 kind] w fun e w' => AnL w a ks e w') := fun N w Y M' L' hw hL' => ask_len hw hL' (HZ.out zz hzm) n hn kind (by rw [near_alone hnear]; exact HA.out) (by rw [near_alone hnear]; exact HK.out)
    have HRt := Hid.mk (HOk.out.1 zz hzm)
    have HNm := Hid.mk hnm
    simp only
    have H0 : Hid (Below W.heap.size W w4 ∧ Locs w1.heap.size w4 X M L ∧ SetsAt w2.heap.size w4 (.slice q3 ks c3) (ansR l' n kind).2) := ⟨HB4.out, HL4.out, HS4.out⟩
    clear hpm hnm hns hp hnear hzm HB4 HL4 HS4 HIn HAt
    go_wp2
    go_loopw [16] (fun iv wr => ∃ i : Nat, i ≤ k ∧ iv = .int .i64 (i : Int) ∧ Hid (Below W.heap.size W wr ∧ Locs w1.heap.size wr X M L ∧ SetsAt w2.heap.size wr (.slice q3 ks c3) (ansR l' n kind).2)) (fun iv _ => k - (intOf iv).toNat)
    case atStart => exact ⟨0, Nat.zero_le _, rfl, H0.out⟩
    case round =>
      obtain ⟨i, hi, rfl, HR⟩ := hrel
      by_cases hlt : i < k
      · have hlz : (i : Int) < (k : Int) := by omega
        have wi : IntKind.i64.wrap ((i : Int) + 1) = ((i + 1 : Nat) : Int) := by rw [IntKind.wrap_i64]; omega
        obtain ⟨b, off, rfl, z', qr, cr, hz', c0, c1, c2⟩ := HBL.out wr i hlt HR.out.1
        have HC := Hid.mk (fun w => HEq.out z' hz'.out.1 w)
        cases he : eqF z'.nm zz.nm with
        | false =>
          rw [he] at HC
          clear he
          go_wp2_with fail
          refine (HC.out _).mono ?_
          rintro e w5 ⟨rfl, hb5⟩
          have H5 : Hid (Below W.heap.size W w5 ∧ Locs w1.heap.size w5 X M L ∧ SetsAt w2.heap.size w5 (.slice q3 ks c3) (ansR l' n kind).2) := ⟨HR.out.1.trans (hb5.mono HR.out.1.size), HR.out.2.1.blk hb5, HR.out.2.2.blk hb5⟩
          clear hb5
          go_wp2
          go_roundw
          case rel => exact ⟨i + 1, by omega, by first | rfl | go_num, H5⟩
          case measure => simp [intOf]; omega
        | true =>
          rw [he] at HC
          have hzz := HSm.out z' hz'.out.1 he
          subst hzz
          clear he
          have HBL5 : Hid (∀ w5, Below wr.heap.size wr w5 → RcsAt w5 qr z'.rs ∧ w5.cell? ⟨b, off + i * 3, none⟩ = some (.string z'.nm) ∧ w5.cell? ⟨b, off + i * 3 + 1, none⟩ = some (.int .i64 z'.kd) ∧ w5.cell? ⟨b, off + i * 3 + 2, none⟩ = some (.slice qr z'.rs.length cr)) := fun w5 hb => ⟨hz'.out.2.blk hb, (hb.cell (p := ⟨b, off + i * 3, none⟩) (cell_block c0)).trans c0, (hb.cell (p := ⟨b, off + i * 3 + 1, none⟩) (cell_block c1)).trans c1, (hb.cell (p := ⟨b, off + i * 3 + 2, none⟩) (cell_block c2)).trans c2⟩
          go_wp2_with fail
          refine (HC.out _).mono ?_
          rintro e w5 ⟨rfl, hb5⟩
          have H5 : Hid (Below W.heap.size W w5 ∧ Locs w1.heap.size w5 X M L ∧ SetsAt w2.heap.size w5 (.slice q3 ks c3) (ansR l' n kind).2) := ⟨HR.out.1.trans (hb5.mono HR.out.1.size), HR.out.2.1.blk hb5, HR.out.2.2.blk hb5⟩
          obtain ⟨hr5, d0, d1, d2⟩ := HBL5.out _ hb5
          have HN5 := Hid.mk (HNew.out w5 qr cr hr5)
          clear hb5 c0 c1 c2 hr5 HBL5 HR
          go_wp2_with fail
          refine HN5.out.mono ?_
          rintro e w6 ⟨h6, hb6⟩
          have H6 : Hid (Below W.heap.size W w6 ∧ Locs w1.heap.size w6 X M L ∧ SetsAt w2.heap.size w6 (.slice q3 ks c3) (ansR l' n kind).2) := ⟨H5.out.1.trans (hb6.mono H5.out.1.size), H5.out.2.1.blk hb6, H5.out.2.2.blk hb6⟩
          rcases h6 with ⟨_, Y, MY, rfl, LY, hLY, hlY⟩ | ⟨hr, _⟩
          case inr => rw [HRt.out] at hr; cases hr
          have HY := Hid.mk (HOne.out _ _ Y MY LY hlY hLY)
          clear hb6 hlY hLY HN5 H5 d0 d1 d2
          go_wp2_with fail
          refine HY.out.mono ?_
          rintro e w7 ⟨⟨q7, c7, rfl⟩, hb7⟩
          have H7 : Hid (Below W.heap.size W w7 ∧ Locs w1.heap.size w7 X M L ∧ SetsAt w2.heap.size w7 (.slice q3 ks c3) (ansR l' n kind).2) := ⟨H6.out.1.trans (hb7.mono H6.out.1.size), H6.out.2.1.blk hb7, H6.out.2.2.blk hb7⟩
          clear hb7 H6
          go_wp2
          go_roundw
          case rel => exact ⟨i + 1, by omega, by first | rfl | go_num, H7⟩
          case measure => simp [intOf]; omega
      · have hlz : ¬ (i : Int) < (k : Int) := by omega
        obtain ⟨hls, hnl⟩ := lb_ok HNm.out
        obtain ⟨cs, hcs, hlow, hcn⟩ := cas_name hls bits
        have HCas : Hid (∀ w, Calls Tryz.prog 15 #[.string n, .int .u64 (bits : Int)] w fun e w' => e = .returned (.tuple #[.string (nm cs), .int .i64 0]) ∧ Below w.heap.size w w') := fun w => by
          have := cased_yes (lb n) hls bits hbits w
          rw [hcn, ← hnl] at this
          exact this
        have hak := ansR_alk l' hcs hls hlow kind
        rw [← hnl] at hak
        obtain ⟨A7, hA7⟩ : ∃ A7, ansR l' (nm cs) kind = A7 := ⟨_, rfl⟩
        obtain ⟨A3, hA3⟩ : ∃ A3, ansR l' n kind = A3 := ⟨_, rfl⟩
        have HQ : Hid (∀ w, Locs w1.heap.size w X M L → Calls Tryz.prog 12 #[ptA X 0, .string (nm cs), .int .i64 kind] w fun e w' => AnP w A7 e w') := fun w hw => by
          have := HAsk.out _ w hw (nm cs) (nm_le hcs)
          rw [hA7] at this
          exact this
        have hdat := ans_data l' n kind
        rw [hA3] at hdat HA HK HR hak
        rw [hA7] at hak
        have ha7 : A7.1 = a := by rw [hak.code]; exact HA.out
        have hk7 : A7.2.length = ks := by rw [hak.rel.len]; exact HK.out
        have HRel : Hid (∀ i (h7 : i < A7.2.length) (h3 : i < A3.2.length), A7.2[i].ls = cs ∧ nm A3.2[i].ls = n ∧ A7.2[i].ty = A3.2[i].ty ∧ A7.2[i].ds.length = A3.2[i].ds.length) := fun i h7 h3 => by
          obtain ⟨e1, e2, e3, e4⟩ := hak.rel.at i h7 h3
          exact ⟨e1, by rw [e2]; exact hnl.symm, e3, by rw [e4]⟩
        have HK7 := Hid.mk hk7
        have HK3 := Hid.mk HK.out
        have HDat : Hid ((a = 3 ∧ 0 < ks) ∨ (¬ a = 3 ∧ ks = 0)) := by
          rw [HA.out, HK.out] at hdat
          exact hdat
        have HA7 := Hid.mk ha7
        clear hls hnl hcs hlow hcn hak hA7 hA3 hdat ha7 hk7 HAsk HNew HOne HBL HSm HEq HNm HRt HZ HOk H0 hi
        go_wp2_with fail
        refine (HCas.out _).mono ?_
        rintro e w5 ⟨rfl, hb5⟩
        have HB5 := Hid.mk (HR.out.1.trans (hb5.mono HR.out.1.size))
        have HL5 := Hid.mk (HR.out.2.1.blk hb5)
        have HS5 := Hid.mk (HR.out.2.2.blk hb5)
        clear hb5 HR HCas
        go_wp2_with fail
        refine (HQ.out _ HL5.out).mono ?_
        rintro e w6 ⟨v6, rfl, hs6, hb6⟩
        obtain ⟨q6, c6, hv6⟩ := setsAt_len hs6
        rw [HK7.out] at hv6
        subst hv6
        rw [HA7.out]
        have H6 : Hid (Below W.heap.size W w6 ∧ SetsAt w2.heap.size w6 (.slice q3 ks c3) A3.2 ∧ SetsAt w5.heap.size w6 (.slice q6 ks c6) A7.2) := ⟨HB5.out.trans (hb6.mono HB5.out.size), HS5.out.blk hb6, hs6⟩
        clear hb6 hs6 HB5 HL5 HS5 HQ
        go_wp2
        go_loopw [25] (fun iv wr => ∃ i : Nat, i ≤ ks ∧ iv = .int .i64 (i : Int) ∧ Hid (Below W.heap.size W wr ∧ SetsAt w2.heap.size wr (.slice q3 ks c3) A3.2 ∧ SetsAt w5.heap.size wr (.slice q6 ks c6) A7.2)) (fun iv _ => ks - (intOf iv).toNat)
        case atStart => exact ⟨0, Nat.zero_le _, rfl, H6.out⟩
        case round =>
          obtain ⟨j, hj, rfl, HR⟩ := hrel
          by_cases hlt2 : j < ks
          · have hjz : (j : Int) < (ks : Int) := by omega
            obtain ⟨g3, p3, qd3, cd3, hv3, x0, x1, x4⟩ := cell_of HR.out.2.1 j (by rw [HK3.out]; exact hlt2)
            obtain ⟨g7, p7, qd7, cd7, hv7, y0, y1, y4⟩ := cell_of HR.out.2.2 j (by rw [HK7.out]; exact hlt2)
            obtain ⟨e1, e2, e3, e4⟩ := HRel.out j (by rw [HK7.out]; exact hlt2) (by rw [HK3.out]; exact hlt2)
            rw [e2] at x0
            rw [e1] at y0
            rw [e3] at y1
            rw [e4] at y4
            rw [HK3.out] at hv3
            rw [HK7.out] at hv7
            cases hv3
            cases hv7
            obtain ⟨ty, hty⟩ : ∃ ty, (A3.2[j]'(by rw [HK3.out]; exact hlt2)).ty = ty := ⟨_, rfl⟩
            obtain ⟨dl, hdl⟩ : ∃ dl, (A3.2[j]'(by rw [HK3.out]; exact hlt2)).ds.length = dl := ⟨_, rfl⟩
            rw [hty] at x1 y1
            rw [hdl] at x4 y4
            clear e1 e2 e3 e4 hty hdl
            go_wp2
            refine wp_region_held_drew (S := fun w => w.cell? ⟨g3, j * 6, none⟩ = some (.string n) ∧ w.cell? ⟨g3, j * 6 + 1, none⟩ = some (.int .i64 ty) ∧ w.cell? ⟨g3, j * 6 + 4, none⟩ = some (.slice qd3 dl cd3) ∧ w.cell? ⟨g7, j * 6, none⟩ = some (.string (nm cs)) ∧ w.cell? ⟨g7, j * 6 + 1, none⟩ = some (.int .i64 ty) ∧ w.cell? ⟨g7, j * 6 + 4, none⟩ = some (.slice qd7 dl cd7)) (by kernel_rfl) ⟨x0, x1, x4, y0, y1, y4⟩ (fun hHeld => ?_)
            refine wpAnyH_take (i := 0) (v := ?vn_0) rfl (by kernel_rfl) (by kernel_rfl) (by kernel_rfl) (fun _ _ _ h => h) (Or.inl ⟨by kernel_rfl, ?yn_0⟩) (by assumption) ?_
            case yn_0 => (intro w hSw; (try dsimp only at hSw); go_simp; try with_reducible rfl)
            refine wpAnyH_take (i := 1) (v := ?vn_1) rfl (by kernel_rfl) (by kernel_rfl) (by kernel_rfl) (fun _ _ _ h => h) (Or.inl ⟨by kernel_rfl, ?yn_1⟩) (by assumption) ?_
            case yn_1 => (intro w hSw; (try dsimp only at hSw); go_simp; try with_reducible rfl)
            refine wpAnyH_take (i := 2) (v := ?vn_2) rfl (by kernel_rfl) (by kernel_rfl) (by kernel_rfl) (fun _ _ _ h => h) (Or.inl ⟨by kernel_rfl, ?yn_2⟩) (by assumption) ?_
            case yn_2 => (intro w hSw; (try dsimp only at hSw); go_simp; try with_reducible rfl)
            refine wpAnyH_take (i := 3) (v := ?vn_3) rfl (by kernel_rfl) (by kernel_rfl) (by kernel_rfl) (fun _ _ _ h => h) (Or.inl ⟨by kernel_rfl, ?yn_3⟩) (by assumption) ?_
            case yn_3 => (intro w hSw; (try dsimp only at hSw); go_simp; try with_reducible rfl)
            refine wpAnyH_take (i := 4) (v := ?vn_4) rfl (by kernel_rfl) (by kernel_rfl) (by kernel_rfl) (fun _ _ _ h => h) (Or.inl ⟨by kernel_rfl, ?yn_4⟩) (by assumption) ?_
            case yn_4 => (intro w hSw; (try dsimp only at hSw); go_simp; try with_reducible rfl)
            refine wpAnyH_take (i := 5) (v := ?vn_5) rfl (by kernel_rfl) (by kernel_rfl) (by kernel_rfl) (fun _ _ _ h => h) (Or.inl ⟨by kernel_rfl, ?yn_5⟩) (by assumption) ?_
            case yn_5 => (intro w hSw; (try dsimp only at hSw); go_simp; try with_reducible rfl)
            refine wpAnyH_take (i := 6) (v := ?vn_6) rfl (by kernel_rfl) (by kernel_rfl) (by kernel_rfl) (fun _ _ _ h => h) (Or.inl ⟨by kernel_rfl, ?yn_6⟩) (by assumption) ?_
            case yn_6 => (intro w hSw; (try dsimp only at hSw); go_simp; try with_reducible rfl)
            refine wpAnyH_take (i := 7) (v := ?vn_7) rfl (by kernel_rfl) (by kernel_rfl) (by kernel_rfl) (fun _ _ _ h => h) (Or.inl ⟨by kernel_rfl, ?yn_7⟩) (by assumption) ?_
            case yn_7 => (intro w hSw; (try dsimp only at hSw); go_simp; try with_reducible rfl)
            refine wpAnyH_take (i := 8) (v := ?vn_8) rfl (by kernel_rfl) (by kernel_rfl) (by kernel_rfl) (fun _ _ _ h => h) (Or.inl ⟨by kernel_rfl, ?yn_8⟩) (by assumption) ?_
            case yn_8 => (intro w hSw; (try dsimp only at hSw); go_simp; try with_reducible rfl)
            refine wpAnyH_take (i := 9) (v := ?vn_9) rfl (by kernel_rfl) (by kernel_rfl) (by kernel_rfl) (fun _ _ _ h => h) (Or.inl ⟨by kernel_rfl, ?yn_9⟩) (by assumption) ?_
            case yn_9 => (intro w hSw; (try dsimp only at hSw); go_simp; try with_reducible rfl)
            refine wpAnyH_take (i := 10) (v := ?vn_10) rfl (by kernel_rfl) (by kernel_rfl) (by kernel_rfl) (fun _ _ _ h => h) (Or.inl ⟨by kernel_rfl, ?yn_10⟩) (by assumption) ?_
            case yn_10 => (intro w hSw; (try dsimp only at hSw); go_simp; try with_reducible rfl)
            refine wpAnyH_take (i := 11) (v := ?vn_11) rfl (by kernel_rfl) (by kernel_rfl) (by kernel_rfl) (fun _ _ _ h => h) (Or.inl ⟨by kernel_rfl, ?yn_11⟩) (by assumption) ?_
            case yn_11 => (intro w hSw; (try dsimp only at hSw); go_simp; try with_reducible rfl)
            refine wpAnyH_take (i := 12) (v := ?vn_12) rfl (by kernel_rfl) (by kernel_rfl) (by kernel_rfl) (fun _ _ _ h => h) (Or.inl ⟨by kernel_rfl, ?yn_12⟩) (by assumption) ?_
            case yn_12 => (intro w hSw; (try dsimp only at hSw); go_simp; try with_reducible rfl)
            refine wpAnyH_take (i := 13) (v := ?vn_13) rfl (by kernel_rfl) (by kernel_rfl) (by kernel_rfl) (fun _ _ _ h => h) (Or.inl ⟨by kernel_rfl, ?yn_13⟩) (by assumption) ?_
            case yn_13 => (intro w hSw; (try dsimp only at hSw); go_simp; try with_reducible rfl)
            refine wpAnyH_take (i := 14) (v := ?vn_14) rfl (by kernel_rfl) (by kernel_rfl) (by kernel_rfl) (fun _ _ _ h => h) (Or.inl ⟨by kernel_rfl, ?yn_14⟩) (by assumption) ?_
            case yn_14 => (intro w hSw; (try dsimp only at hSw); go_simp; try with_reducible rfl)
            refine wpAnyH_take (i := 15) (v := ?vn_15) rfl (by kernel_rfl) (by kernel_rfl) (by kernel_rfl) (fun _ _ _ h => h) (Or.inl ⟨by kernel_rfl, ?yn_15⟩) (by assumption) ?_
            case yn_15 => (intro w hSw; (try dsimp only at hSw); go_simp; try with_reducible rfl)
            refine wpAnyH_take (i := 16) (v := ?vn_16) rfl (by kernel_rfl) (by kernel_rfl) (by kernel_rfl) (fun _ _ _ h => h) (Or.inl ⟨by kernel_rfl, ?yn_16⟩) (by assumption) ?_
            case yn_16 => (intro w hSw; (try dsimp only at hSw); go_simp; try with_reducible rfl)
            refine wpAnyH_take (i := 17) (v := ?vn_17) rfl (by kernel_rfl) (by kernel_rfl) (by kernel_rfl) (fun _ _ _ h => h) (Or.inl ⟨by kernel_rfl, ?yn_17⟩) (by assumption) ?_
            case yn_17 => (intro w hSw; (try dsimp only at hSw); go_simp; try with_reducible rfl)
            refine wpAnyH_take (i := 18) (v := ?vn_18) rfl (by kernel_rfl) (by kernel_rfl) (by kernel_rfl) (fun _ _ _ h => h) (Or.inl ⟨by kernel_rfl, ?yn_18⟩) (by assumption) ?_
            case yn_18 => (intro w hSw; (try dsimp only at hSw); go_simp; try with_reducible rfl)
            refine wpAnyH_take (i := 19) (v := ?vn_19) rfl (by kernel_rfl) (by kernel_rfl) (by kernel_rfl) (fun _ _ _ h => h) (Or.inl ⟨by kernel_rfl, ?yn_19⟩) (by assumption) ?_
            case yn_19 => (intro w hSw; (try dsimp only at hSw); go_simp; try with_reducible rfl)
            refine wpAnyH_take (i := 20) (v := ?vn_20) rfl (by kernel_rfl) (by kernel_rfl) (by kernel_rfl) (fun _ _ _ h => h) (Or.inl ⟨by kernel_rfl, ?yn_20⟩) (by assumption) ?_
            case yn_20 => (intro w hSw; (try dsimp only at hSw); go_simp; try with_reducible rfl)
            refine wpAnyH_take (i := 21) (v := ?vn_21) rfl (by kernel_rfl) (by kernel_rfl) (by kernel_rfl) (fun _ _ _ h => h) (Or.inl ⟨by kernel_rfl, ?yn_21⟩) (by assumption) ?_
            case yn_21 => (intro w hSw; (try dsimp only at hSw); go_simp; try with_reducible rfl)
            refine wpAnyH_take (i := 22) (v := ?vn_22) rfl (by kernel_rfl) (by kernel_rfl) (by kernel_rfl) (fun _ _ _ h => h) (Or.inl ⟨by kernel_rfl, ?yn_22⟩) (by assumption) ?_
            case yn_22 => (intro w hSw; (try dsimp only at hSw); go_simp; try with_reducible rfl)
            refine wpAnyH_take (i := 23) (v := ?vn_23) rfl (by kernel_rfl) (by kernel_rfl) (by kernel_rfl) (fun _ _ _ h => h) (Or.inl ⟨by kernel_rfl, ?yn_23⟩) (by assumption) ?_
            case yn_23 => (intro w hSw; (try dsimp only at hSw); go_simp; try with_reducible rfl)
            refine wpAnyH_take (i := 24) (v := ?vn_24) rfl (by kernel_rfl) (by kernel_rfl) (by kernel_rfl) (fun _ _ _ h => h) (Or.inl ⟨by kernel_rfl, ?yn_24⟩) (by assumption) ?_
            case yn_24 => (intro w hSw; (try dsimp only at hSw); go_simp; try with_reducible rfl)
            refine wpAnyH_take (i := 25) (v := ?vn_25) rfl (by kernel_rfl) (by kernel_rfl) (by kernel_rfl) (fun _ _ _ h => h) (Or.inl ⟨by kernel_rfl, ?yn_25⟩) (by assumption) ?_
            case yn_25 => (intro w hSw; (try dsimp only at hSw); go_simp; try with_reducible rfl)
            refine wpAnyH_take (i := 26) (v := ?vn_26) rfl (by kernel_rfl) (by kernel_rfl) (by kernel_rfl) (fun _ _ _ h => h) (Or.inl ⟨by kernel_rfl, ?yn_26⟩) (by assumption) ?_
            case yn_26 => (intro w hSw; (try dsimp only at hSw); go_simp; try with_reducible rfl)
            refine wpAnyH_take (i := 27) (v := ?vn_27) rfl (by kernel_rfl) (by kernel_rfl) (by kernel_rfl) (fun _ _ _ h => h) (Or.inl ⟨by kernel_rfl, ?yn_27⟩) (by assumption) ?_
            case yn_27 => (intro w hSw; (try dsimp only at hSw); go_simp; try with_reducible rfl)
            refine wpAnyH_take (i := 28) (v := ?vn_28) rfl (by kernel_rfl) (by kernel_rfl) (by kernel_rfl) (fun _ _ _ h => h) (Or.inl ⟨by kernel_rfl, ?yn_28⟩) (by assumption) ?_
            case yn_28 => (intro w hSw; (try dsimp only at hSw); go_simp; try with_reducible rfl)
            refine wpAnyH_take (i := 29) (v := ?vn_29) rfl (by kernel_rfl) (by kernel_rfl) (by kernel_rfl) (fun _ _ _ h => h) (Or.inl ⟨by kernel_rfl, ?yn_29⟩) (by assumption) ?_
            case yn_29 => (intro w hSw; (try dsimp only at hSw); go_simp; try with_reducible rfl)
            refine wpAnyH_take (i := 30) (v := ?vn_30) rfl (by kernel_rfl) (by kernel_rfl) (by kernel_rfl) (fun _ _ _ h => h) (Or.inl ⟨by kernel_rfl, ?yn_30⟩) (by assumption) ?_
            case yn_30 => (intro w hSw; (try dsimp only at hSw); go_simp; try with_reducible rfl)
            refine wpAnyH_take (i := 31) (v := ?vn_31) rfl (by kernel_rfl) (by kernel_rfl) (by kernel_rfl) (fun _ _ _ h => h) (Or.inl ⟨by kernel_rfl, ?yn_31⟩) (by assumption) ?_
            case yn_31 => (intro w hSw; (try dsimp only at hSw); go_simp; try with_reducible rfl)
            refine wpAnyH_take (i := 32) (v := ?vn_32) rfl (by kernel_rfl) (by kernel_rfl) (by kernel_rfl) (fun _ _ _ h => h) (Or.inl ⟨by kernel_rfl, ?yn_32⟩) (by assumption) ?_
            case yn_32 => (intro w hSw; (try dsimp only at hSw); go_simp; try with_reducible rfl)
            refine wpAnyH_take (i := 33) (v := ?vn_33) rfl (by kernel_rfl) (by kernel_rfl) (by kernel_rfl) (fun _ _ _ h => h) (Or.inl ⟨by kernel_rfl, ?yn_33⟩) (by assumption) ?_
            case yn_33 => (intro w hSw; (try dsimp only at hSw); go_simp; try with_reducible rfl)
            refine wpAnyH_take (i := 34) (v := ?vn_34) rfl (by kernel_rfl) (by kernel_rfl) (by kernel_rfl) (fun _ _ _ h => h) (Or.inl ⟨by kernel_rfl, ?yn_34⟩) (by assumption) ?_
            case yn_34 => (intro w hSw; (try dsimp only at hSw); go_simp; try with_reducible rfl)
            refine wpAnyH_take (i := 35) (v := ?vn_35) rfl (by kernel_rfl) (by kernel_rfl) (by kernel_rfl) (fun _ _ _ h => h) (Or.inl ⟨by kernel_rfl, ?yn_35⟩) (by assumption) ?_
            case yn_35 => (intro w hSw; (try dsimp only at hSw); go_simp; try with_reducible rfl)
            refine wpAnyH_take (i := 36) (v := ?vn_36) rfl (by kernel_rfl) (by kernel_rfl) (by kernel_rfl) (fun _ _ _ h => h) (Or.inl ⟨by kernel_rfl, ?yn_36⟩) (by assumption) ?_
            case yn_36 => (intro w hSw; (try dsimp only at hSw); go_simp; try with_reducible rfl)
            refine wpAnyH_take (i := 37) (v := ?vn_37) rfl (by kernel_rfl) (by kernel_rfl) (by kernel_rfl) (fun _ _ _ h => h) (Or.inl ⟨by kernel_rfl, ?yn_37⟩) (by assumption) ?_
            case yn_37 => (intro w hSw; (try dsimp only at hSw); go_simp; try with_reducible rfl)
            refine wpAnyH_take (i := 38) (v := ?vn_38) rfl (by kernel_rfl) (by kernel_rfl) (by kernel_rfl) (fun _ _ _ h => h) (Or.inl ⟨by kernel_rfl, ?yn_38⟩) (by assumption) ?_
            case yn_38 => (intro w hSw; (try dsimp only at hSw); go_simp; try with_reducible rfl)
            refine wpAnyH_take (i := 39) (v := ?vn_39) rfl (by kernel_rfl) (by kernel_rfl) (by kernel_rfl) (fun _ _ _ h => h) (Or.inl ⟨by kernel_rfl, ?yn_39⟩) (by assumption) ?_
            case yn_39 => (intro w hSw; (try dsimp only at hSw); go_simp; try with_reducible rfl)
            refine wpAnyH_take (i := 40) (v := ?vn_40) rfl (by kernel_rfl) (by kernel_rfl) (by kernel_rfl) (fun _ _ _ h => h) (Or.inl ⟨by kernel_rfl, ?yn_40⟩) (by assumption) ?_
            case yn_40 => (intro w hSw; (try dsimp only at hSw); go_simp; try with_reducible rfl)
            refine wpAnyH_take (i := 41) (v := ?vn_41) rfl (by kernel_rfl) (by kernel_rfl) (by kernel_rfl) (fun _ _ _ h => h) (Or.inl ⟨by kernel_rfl, ?yn_41⟩) (by assumption) ?_
            case yn_41 => (intro w hSw; (try dsimp only at hSw); go_simp; try with_reducible rfl)
            refine wpAnyH_take (i := 42) (v := ?vn_42) rfl (by kernel_rfl) (by kernel_rfl) (by kernel_rfl) (fun _ _ _ h => h) (Or.inl ⟨by kernel_rfl, ?yn_42⟩) (by assumption) ?_
            case yn_42 => (intro w hSw; (try dsimp only at hSw); go_simp; try with_reducible rfl)
            refine wpAnyH_take (i := 43) (v := ?vn_43) rfl (by kernel_rfl) (by kernel_rfl) (by kernel_rfl) (fun _ _ _ h => h) (Or.inl ⟨by kernel_rfl, ?yn_43⟩) (by assumption) ?_
            case yn_43 => (intro w hSw; (try dsimp only at hSw); go_simp; try with_reducible rfl)
            try simp only [Act.put, List.getElem_toArray, List.getElem_cons_succ, List.getElem_cons_zero, List.setIfInBounds_toArray, List.set_cons_zero, List.set_cons_succ]
            refine wpAnyH_done (by kernel_rfl) ?_ _
            have HE : Hid (Below W.heap.size W wr.drew ∧ SetsAt w2.heap.size wr.drew (.slice (some ⟨g3, 0, none⟩) ks c3) A3.2 ∧ SetsAt w5.heap.size wr.drew (.slice (some ⟨g7, 0, none⟩) ks c6) A7.2) := ⟨HR.out.1.drew, HR.out.2.1.blk (Below.refl _ _).drew, HR.out.2.2.blk (Below.refl _ _).drew⟩
            have wj : IntKind.i64.wrap ((j : Int) + 1) = ((j + 1 : Nat) : Int) := by have h1 := setsAt_le HR.out.2.1; have h2 := HK3.out; rw [IntKind.wrap_i64]; omega
            clear hHeld x0 x1 x4 y0 y1 y4
            go_wp2
            go_roundw
            case rel => exact ⟨j + 1, by omega, by first | rfl | go_num, HE⟩
            case measure => simp [intOf]; omega
          · have hjz : ¬ (j : Int) < (ks : Int) := by omega
            have HB := Hid.mk HR.out.1
            rcases HDat.out with ⟨h1, h2⟩ | ⟨h1, h2⟩
            · have e1 : (a == 3) = true := by simpa using h1
              have e2 : (0 : Int) < (ks : Int) := by omega
              clear h1
              go_wp2
              go_ret
              exact ⟨rfl, HB.out⟩
            · have e1 : (a == 3) = false := by simpa using h1
              have e2 : ¬ (0 : Int) < (ks : Int) := by omega
              clear h1
              go_wp2
              go_ret
              exact ⟨rfl, HB.out⟩
end Go.Proofs.YtimnnogaiglceaaGreatDoor