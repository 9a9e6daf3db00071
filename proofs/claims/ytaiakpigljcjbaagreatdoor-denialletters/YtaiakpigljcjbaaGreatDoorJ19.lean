/- Texts of this proof, joined: ZCas, ZLetters. -/
import Derived.Lib.ConvBytes
import Derived.Test.YtaiakpigljcjbaaGreatDoorJ11
import Derived.OpenShut
import Derived.Test.YtaiakpigljcjbaaGreatDoorJ18
/- Cased. -/
namespace Go.Proofs.YtaiakpigljcjbaaGreatDoor
set_option linter.unusedVariables false
set_option maxRecDepth 100000
open Go.RowKit

def isLowU (b : UInt8) : Bool := decide (97 ≤ b.toNat ∧ b.toNat ≤ 122)
def cntU (l : List UInt8) : Nat := (l.filter isLowU).length
def bitAtU (bits k : Nat) : Bool := decide (bits / 2 ^ (k % 64) % 2 = 1)
def casBU (bits k : Nat) (b : UInt8) : UInt8 := if isLowU b = true ∧ bitAtU bits k = true then UInt8.ofNat (b.toNat - 32) else b
/-- the bytes with their letters as bits says, k letters having come. -/
def casGoU (bits : Nat) : Nat → List UInt8 → List UInt8
  | _, [] => []
  | k, b :: t => casBU bits k b :: casGoU bits (if isLowU b = true then k + 1 else k) t

theorem cnt_snocU (l : List UInt8) (b : UInt8) : cntU (l ++ [b]) = cntU l + if isLowU b = true then 1 else 0 := by
  unfold cntU; rw [List.filter_append]
  by_cases h : isLowU b = true <;> simp [h]
theorem cnt_leU (l : List UInt8) : cntU l ≤ l.length := List.length_filter_le _ _
theorem cnt_consU (b : UInt8) (l : List UInt8) : cntU (b :: l) = (if isLowU b = true then 1 else 0) + cntU l := by
  unfold cntU
  by_cases h : isLowU b = true
  · simp [h]; omega
  · simp [h]
theorem casGo_snocU (bits : Nat) : ∀ (l : List UInt8) (k : Nat) (b : UInt8), casGoU bits k (l ++ [b]) = casGoU bits k l ++ [casBU bits (k + cntU l) b]
  | [], k, b => by simp [casGoU, cntU]
  | c :: l, k, b => by
    rw [List.cons_append, casGoU, casGo_snocU bits l, casGoU, cnt_consU]
    by_cases h : isLowU c = true
    · simp [h]; congr 1; omega
    · simp [h]
theorem casGo_lengthU (bits : Nat) : ∀ (l : List UInt8) (k : Nat), (casGoU bits k l).length = l.length
  | [], k => rfl
  | c :: l, k => by simp [casGoU, casGo_lengthU bits l]

def casToU (bits : Nat) (l : List UInt8) (k : Nat) : List UInt8 := casGoU bits 0 (l.take k) ++ l.drop k
theorem casTo_zeroU (bits : Nat) (l : List UInt8) : casToU bits l 0 = l := by simp [casToU, casGoU]
theorem casTo_allU (bits : Nat) (l : List UInt8) (k : Nat) (h : l.length ≤ k) : casToU bits l k = casGoU bits 0 l := by simp [casToU, List.take_of_length_le h, List.drop_of_length_le h]
theorem casTo_lengthU (bits : Nat) (l : List UInt8) (k : Nat) : (casToU bits l k).length = l.length := by simp [casToU, casGo_lengthU]; omega
theorem casTo_getU (bits : Nat) (l : List UInt8) (k : Nat) (h : k < l.length) : (casToU bits l k)[k]'(by rw [casTo_lengthU]; exact h) = l[k] := by
  have h1 : (casGoU bits 0 (l.take k)).length = k := by rw [casGo_lengthU]; simp; omega
  unfold casToU
  rw [List.getElem_append_right (by omega)]
  simp [h1]
theorem casTo_succU (bits : Nat) (l : List UInt8) (k : Nat) (h : k < l.length) : (casToU bits l k).set k (casBU bits (cntU (l.take k)) l[k]) = casToU bits l (k + 1) := by
  have h1 : (casGoU bits 0 (l.take k)).length = k := by rw [casGo_lengthU]; simp; omega
  unfold casToU
  rw [List.set_append_right _ _ (by omega), h1, Nat.sub_self, List.drop_eq_getElem_cons h, List.take_succ_eq_append_getElem h, List.set_cons_zero, casGo_snocU, Nat.zero_add, List.append_assoc]
  rfl
theorem casTo_sameU (bits : Nat) (l : List UInt8) (k : Nat) (h : k < l.length) (he : casBU bits (cntU (l.take k)) l[k] = l[k]) : casToU bits l (k + 1) = casToU bits l k := by
  rw [← casTo_succU bits l k h, he]
  have := casTo_getU bits l k h
  conv => lhs; rw [← this]
  exact List.set_getElem_self _
theorem set_selfU (l : List UInt8) (k : Nat) (h : k < l.length) : l.set k l[k] = l := List.set_getElem_self h

theorem bit_testU (x m : Nat) (h : x < 18446744073709551616) : (Go.bits BinOp.and IntKind.u64 ((x : Int) / 2 ^ (m % 64)) 1 == 1) = bitAtU x m := by
  have e : ((x : Int) / 2 ^ (m % 64)) = ((x / 2 ^ (m % 64) : Nat) : Int) := by
    rw [Int.natCast_ediv, Int.natCast_pow]; rfl
  have hle : x / 2 ^ (m % 64) ≤ x := Nat.div_le_self _ _
  rw [e, bitAtU]
  generalize x / 2 ^ (m % 64) = y at hle ⊢
  rw [and_one_u64 _ (by omega) (by omega), Bool.eq_iff_iff, beq_iff_eq, decide_eq_true_iff]
  omega

theorem cased_no (s : ByteArray) (hs : s.size ≤ maxLen) (h : ¬ IsName s) (x : Int) (w : World) :
    Calls Tryz.prog 13 #[.string s, .int .u64 x] w fun e w' => e = .returned (.tuple #[.string ⟨#[]⟩, .int .i64 2]) ∧ Below w.heap.size w w' := by
  go_enter Tryz.func13, Tryz.ntmps13
  go_wp2_with fail
  refine (right_no s h hs _).mono ?_
  rintro e w1 ⟨rfl, hb1⟩
  go_wp2
  go_ret2
  exact ⟨rfl, hb1⟩

theorem bytesWorld_bytesU (w : World) (s : ByteArray) : BytesAt (Lib.bytesWorld w 5 s) w.heap.size s.data.toList := by
  intro j hj
  refine ⟨?_, ?_⟩
  · rw [Lib.bytesWorld_cell w 5 s j (by rw [size_list] at hj; exact hj)]
    rw [show s.data.toList.getD j 0 = s.data.toList[j] by rw [List.getD_eq_getElem?_getD, List.getElem?_eq_getElem hj]; rfl]
  · have hj' : j < s.size := by rw [size_list] at hj; exact hj
    have hc : s.size ≤ (Lib.bytesCells w 5 s).size := by simp [Lib.bytesCells]
    simp [World.frozen?, Lib.bytesWorld_at_new]
    omega

theorem below_bytesU (w : World) (s : ByteArray) : Below w.heap.size w (Lib.bytesWorld w 5 s) :=
  ⟨rfl, rfl, rfl, by rw [Lib.bytesWorld_size]; omega, fun k hk => Lib.bytesWorld_at_old w 5 s k hk⟩

set_option maxHeartbeats 1000000 in
theorem cased_yes (ls : List (List UInt8)) (ho : OkN ls) (bits : Nat) (hbits : bits < 18446744073709551616) (w : World) :
    Calls Tryz.prog 13 #[.string (nm ls), .int .u64 (bits : Int)] w fun e w' => e = .returned (.tuple #[.string ⟨(casGoU bits 0 (nm (lowN ls)).data.toList).toArray⟩, .int .i64 0]) ∧ Below w.heap.size w w' := by
  have hz : (nm (lowN ls)).size ≤ 255 := by rw [nm_size]; have := ho.low.len; omega
  have hcv := fun W : World => Lib.run_convert_string_bytes (P := Tryz.prog) W 9 50 5 (nm (lowN ls)) Tryz.underlying9 Tryz.underlying50 Tryz.underlying5
  obtain ⟨s, hs⟩ : ∃ s, nm (lowN ls) = s := ⟨_, rfl⟩
  have HB := Hid.mk hbits
  clear hbits
  go_enter Tryz.func13, Tryz.ntmps13
  go_wp2_with fail
  refine (right_yes ls ho _).mono ?_
  rintro e w1 ⟨rfl, hb1⟩
  go_wp2_with fail
  refine (lowered_nm ls ho _).mono ?_
  rintro e w2 ⟨rfl, hb2⟩
  rw [hs] at hcv hz ⊢
  go_wp2_with fail
  clear hcv
  have hby0 := bytesWorld_bytesU w2 s
  have hbe0 := below_bytesU w2 s
  go_loopw [7, 18] (fun n i wr => ∃ k : Nat, k ≤ s.size ∧ i = .int .i64 k ∧ n = .int .i64 (cntU (s.data.toList.take k) : Nat) ∧ BytesAt wr w2.heap.size (casToU bits s.data.toList k) ∧ Below w2.heap.size w2 wr) (fun _ i _ => s.size - (intOf i).toNat)
  case atStart => exact ⟨0, Nat.zero_le _, rfl, by simp [cntU], by rw [casTo_zeroU]; exact hby0, hbe0⟩
  case round =>
    clear hby0 hbe0
    obtain ⟨k, hk, rfl, rfl, hby, hbl⟩ := hrel
    by_cases hlt : k < s.size
    · have hlt' : k < s.data.toList.length := by rw [size_list]; exact hlt
      have hj := hby k (by rw [casTo_lengthU]; exact hlt')
      rw [casTo_getU _ _ _ hlt'] at hj
      obtain ⟨hc, hf⟩ := hj
      have hn := (hby.set k (casBU bits (cntU (s.data.toList.take k)) s.data.toList[k]))
      rw [casTo_succU _ _ _ hlt'] at hn
      have hsame := casTo_sameU bits s.data.toList k hlt'
      have hcn : cntU (s.data.toList.take k) ≤ 255 := by have := cnt_leU (s.data.toList.take k); simp at this; omega
      have hcs := cnt_snocU (s.data.toList.take k) s.data.toList[k]
      rw [← List.take_succ_eq_append_getElem hlt'] at hcs
      have HC := Hid.mk hcs
      have HN := Hid.mk hn
      have HS := Hid.mk hsame
      clear hn hsame hcs
      generalize s.data.toList[k] = c at hc HN HS HC
      generalize hm : cntU (s.data.toList.take k) = m at hcn HN HS HC ⊢
      have HM := Hid.mk hm
      clear hm
      have hc8 := c.toNat_lt
      by_cases h1 : 97 ≤ c.toNat
      · by_cases h2 : c.toNat ≤ 122
        · have hlow : isLowU c = true := by simp [isLowU, h1, h2]
          have hm1 : cntU (s.data.toList.take (k + 1)) = m + 1 := by rw [HC.out, hlow]; simp
          have HM1 := Hid.mk hm1
          have hbt := bit_testU bits m HB.out
          by_cases hbit : bitAtU bits m = true
          · have hcb : ((casBU bits m c).toNat : Int) = (c.toNat : Int) - 32 := by
              unfold casBU; rw [if_pos ⟨hlow, hbit⟩]; simp; omega
            have HN1 := HN.out
            rw [hcb] at HN1
            have HN2 := Hid.mk HN1
            rw [hbit] at hbt
            clear HN1 hcb hbit hlow hm1
            go_wp2
            exact ⟨⟨k + 1, by omega, by go_num, by rw [HM1.out]; go_num, HN2.out, hbl.setCell (p := ⟨w2.heap.size, k, none⟩) (Nat.le_refl _) _⟩, by simp [intOf]; omega⟩
          · have e : casToU bits s.data.toList (k + 1) = casToU bits s.data.toList k := HS.out (by simp [casBU, hbit])
            have HE := Hid.mk e
            have hbit' : bitAtU bits m = false := by simpa using hbit
            rw [hbit'] at hbt
            clear e hbit hbit' hlow hm1
            go_wp2
            exact ⟨⟨k + 1, by omega, by go_num, by rw [HM1.out]; go_num, by rw [HE.out]; exact hby, hbl⟩, by simp [intOf]; omega⟩
        · have hlow : isLowU c = false := by simp [isLowU]; omega
          have e : casToU bits s.data.toList (k + 1) = casToU bits s.data.toList k := HS.out (by simp [casBU, hlow])
          have hm1 : cntU (s.data.toList.take (k + 1)) = m := by rw [HC.out, hlow]; simp
          have HE := Hid.mk e
          have HM1 := Hid.mk hm1
          clear e hm1 hlow
          go_wp2
          go_roundw
          case rel => exact ⟨k + 1, by omega, by go_num, by rw [HM1.out], by rw [HE.out]; exact hby, hbl⟩
          case measure => simp [intOf]; omega
      · have hlow : isLowU c = false := by simp [isLowU]; omega
        have e : casToU bits s.data.toList (k + 1) = casToU bits s.data.toList k := HS.out (by simp [casBU, hlow])
        have hm1 : cntU (s.data.toList.take (k + 1)) = m := by rw [HC.out, hlow]; simp
        have HE := Hid.mk e
        have HM1 := Hid.mk hm1
        clear e hm1 hlow
        go_wp2
        go_roundw
        case rel => exact ⟨k + 1, by omega, by go_num, by rw [HM1.out], by rw [HE.out]; exact hby, hbl⟩
        case measure => simp [intOf]; omega
    · have hfin : casToU bits s.data.toList k = casGoU bits 0 s.data.toList := casTo_allU _ _ _ (by rw [size_list]; omega)
      rw [hfin] at hby
      have hcv := run_convert_bytes_back (P := Tryz.prog) wr 50 9 5 ⟨w2.heap.size, 0, none⟩ (grownCap w2 s.size 0 5) (casGoU bits 0 s.data.toList) Tryz.underlying50 Tryz.underlying5 Tryz.underlying9 (fun j hj => by rw [add_at]; exact (hby j hj).1)
      rw [casGo_lengthU, size_list] at hcv
      clear hfin hby
      go_wp2
      go_ret2
      exact ⟨by rw [hs]; rfl, bthen hb1 (bthen hb2 hbl)⟩
end Go.Proofs.YtaiakpigljcjbaaGreatDoor

/- DenialLetters. -/
namespace Go.Proofs.YtaiakpigljcjbaaGreatDoor
set_option linter.unusedVariables false
set_option linter.unusedSimpArgs false
open Go.RowKit
attribute [local go_sem ↓] storeAt_lk loadAt_lk
theorem casGo_appendU (bits : Nat) : ∀ (l r : List UInt8) (k : Nat), casGoU bits k (l ++ r) = casGoU bits k l ++ casGoU bits (k + cntU l) r
  | [], r, k => by simp [casGoU, cntU]
  | b :: l, r, k => by
    rw [List.cons_append, casGoU, casGoU, casGo_appendU bits l r, cnt_consU]
    by_cases h : isLowU b = true
    · simp [h]; congr 1; omega
    · simp [h]
theorem casB_lowU {b : UInt8} (h : lowB b = b) (bits k : Nat) : lowB (casBU bits k b) = b := by
  unfold casBU
  split
  · rename_i hc
    have hb := hc.1
    simp only [isLowU, decide_eq_true_iff] at hb
    have e : (UInt8.ofNat (b.toNat - 32)).toNat = b.toNat - 32 := by simp; omega
    apply UInt8.toNat_inj.1
    rw [lowB_toNat, e, if_pos (by omega)]; omega
  · exact h
theorem casGo_lowU (bits : Nat) : ∀ (l : List UInt8) (k : Nat), l.map lowB = l → (casGoU bits k l).map lowB = l
  | [], _, _ => rfl
  | b :: l, k, h => by
    simp only [List.map_cons, List.cons.injEq] at h
    simp only [casGoU, List.map_cons, casB_lowU h.1, casGo_lowU bits l _ h.2]
theorem casB_lenU {n : Nat} (h : n ≤ 63) (bits k : Nat) : casBU bits k (UInt8.ofNat n) = UInt8.ofNat n ∧ isLowU (UInt8.ofNat n) = false := by
  have e : (UInt8.ofNat n).toNat = n := by simp; omega
  have hl : isLowU (UInt8.ofNat n) = false := by simp only [isLowU, e, decide_eq_false_iff_not]; omega
  refine ⟨?_, hl⟩
  unfold casBU; rw [hl, if_neg (by simp)]
/-- the labels, their letters as bits says. -/
def casNU (bits : Nat) : Nat → List (List UInt8) → List (List UInt8)
  | _, [] => []
  | k, l :: ls => casGoU bits k l :: casNU bits (k + cntU l) ls
theorem casGo_flatU (bits : Nat) : ∀ (ls : List (List UInt8)) (k : Nat) (r : List UInt8), (∀ l ∈ ls, l.length ≤ 63) → ∃ j, casGoU bits k (flat ls ++ r) = flat (casNU bits k ls) ++ casGoU bits j r
  | [], k, r, _ => ⟨k, rfl⟩
  | l :: ls, k, r, h => by
    have hl := h l (by simp)
    obtain ⟨j, hj⟩ := casGo_flatU bits ls (k + cntU l) r (fun x hx => h x (by simp [hx]))
    refine ⟨j, ?_⟩
    have hc := casB_lenU hl bits k
    simp only [flat, casNU, List.cons_append, casGoU, hc.1, hc.2, casGo_lengthU]
    rw [List.append_assoc, casGo_appendU, if_neg (by simp), hj]
    simp
theorem casN_lenU (bits : Nat) : ∀ (ls : List (List UInt8)) (k : Nat), (flat (casNU bits k ls)).length = (flat ls).length ∧ (∀ l ∈ casNU bits k ls, ∃ m ∈ ls, l.length = m.length)
  | [], _ => ⟨rfl, by simp [casNU]⟩
  | l :: ls, k => by
    have ih := casN_lenU bits ls (k + cntU l)
    refine ⟨?_, ?_⟩
    · simp [casNU, flat, casGo_lengthU, ih.1]
    · intro x hx
      simp only [casNU, List.mem_cons] at hx
      rcases hx with rfl | hx
      · exact ⟨l, by simp, casGo_lengthU _ _ _⟩
      · obtain ⟨m, hm, e⟩ := ih.2 x hx
        exact ⟨m, by simp [hm], e⟩
theorem casN_lowU (bits : Nat) : ∀ (ls : List (List UInt8)) (k : Nat), lowN ls = ls → lowN (casNU bits k ls) = ls
  | [], _, _ => rfl
  | l :: ls, k, h => by
    have h' : l.map lowB = l ∧ lowN ls = ls := by simpa [lowN] using h
    have ih := casN_lowU bits ls (k + cntU l) h'.2
    show (casGoU bits k l).map lowB :: lowN (casNU bits (k + cntU l) ls) = _
    rw [casGo_lowU bits l k h'.1, ih]
theorem lowB_idemU (b : UInt8) : lowB (lowB b) = lowB b := by
  apply UInt8.toNat_inj.1
  rw [lowB_toNat, lowB_toNat]
  split
  · rw [if_neg (by omega)]
  · rfl
theorem lowN_idemU (ls : List (List UInt8)) : lowN (lowN ls) = lowN ls := by
  simp [lowN, lowB_idemU]
/-- a name with its letters great or small is a name, and the same. -/
theorem cas_name {ls : List (List UInt8)} (ho : OkN ls) (bits : Nat) : ∃ cs, OkN cs ∧ lowN cs = lowN ls ∧ (⟨(casGoU bits 0 (nm (lowN ls)).data.toList).toArray⟩ : ByteArray) = nm cs := by
  refine ⟨casNU bits 0 (lowN ls), ?_, ?_, ?_⟩
  · have h := casN_lenU bits (lowN ls) 0
    refine ⟨fun l hl => ?_, by rw [h.1]; exact ho.low.len⟩
    obtain ⟨m, hm, e⟩ := h.2 l hl
    rw [e]; exact ho.low.lab m hm
  · exact casN_lowU bits _ 0 (lowN_idemU ls)
  · apply ba_ext
    rw [ba_toList, nm_list, nm_list, nmL, nmL]
    obtain ⟨j, hj⟩ := casGo_flatU bits (lowN ls) 0 [0] (fun l hl => (ho.low.lab l hl).2)
    rw [hj]
    rfl
set_option maxRecDepth 100000 in
set_option maxHeartbeats 2000000 in
theorem letters_pos (n salt c h : ByteArray) (ec e : Int) (m x : Int) (R : Bool) (q : Nat) (bits : Int) (W : World) (hq : q < 9223372036854775808) (hm : m = q) (h1 : Hid (∀ w, Calls Tryz.prog 13 #[.string n, .int .u64 bits] w fun en w' => en = .returned (.tuple #[.string c, .int .i64 ec]) ∧ Below w.heap.size w w')) (h2 : Hid (∀ w, Calls Tryz.prog 7 #[.string n, .string salt, .int .i64 ((q % 51 : Nat) : Int)] w fun en w' => en = .returned (.tuple #[.string h, .int .i64 e]) ∧ Below w.heap.size w w')) (h3 : Hid (∀ w, Calls Tryz.prog 7 #[.string c, .string salt, .int .i64 ((q % 51 : Nat) : Int)] w fun en w' => en = .returned (.tuple #[.string h, .int .i64 e]) ∧ Below w.heap.size w w')) (h4 : Hid (∀ w, Calls Tryz.prog 11 #[.string n] w fun en w' => en = .returned (.bool R) ∧ Below w.heap.size w w')) (hF : R = false → h = ⟨#[]⟩ ∧ e ≠ 0) (hT : R = true → e = 0 → h.size = 20) :
    Calls Tryz.prog 5 #[.string n, .string salt, .int .i64 m, .int .u64 bits] W fun e w' => e = .returned (.bool true) ∧ Below W.heap.size W w' := by
  have HX := Hid.mk examples9_in
  have HF := Hid.mk hF
  have HT := Hid.mk hT
  clear hF hT
  have hrem : IntKind.i64.wrap (Int.tmod (q : Int) 51) = ((q % 51 : Nat) : Int) := by
    have : Int.tmod (q : Int) 51 = ((q % 51 : Nat) : Int) := by rw [Int.tmod_eq_emod_of_nonneg (by omega)]; omega
    rw [this, IntKind.wrap_i64]; omega
  have hrem2 : Int.tmod (q : Int) 51 = ((q % 51 : Nat) : Int) := by rw [Int.tmod_eq_emod_of_nonneg (by omega)]; omega
  subst hm
  have d1 : decide ((q : Int) < 0) = false := decide_eq_false (by omega)
  have d2 : ¬ (q : Int) < 0 := by omega
  generalize q % 51 = r at hrem hrem2 h2 h3
  clear hq
  have F := Fm.start W
  go_enter Tryz.func5, Tryz.ntmps5
  go_wp2_with fail
  refine (HX.out _).mono ?_
  rintro e0 u0 ⟨rfl, hb⟩
  replace F := F.blk hb
  clear hb
  go_wp2_with fail
  refine (h1.out _).mono ?_
  rintro e0 u1 ⟨rfl, hb⟩
  replace F := F.blk hb
  clear hb
  go_wp2_with fail
  refine (h2.out _).mono ?_
  rintro e0 u2 ⟨rfl, hb⟩
  replace F := F.blk hb
  clear hb
  go_wp2_with fail
  refine (h3.out _).mono ?_
  rintro e0 u3 ⟨rfl, hb⟩
  replace F := F.blk hb
  clear hb
  go_wp2_with fail
  refine (h4.out _).mono ?_
  rintro e0 u4 ⟨rfl, hb⟩
  replace F := F.blk hb
  clear hb
  cases R with
  | false =>
    obtain ⟨rfl, he⟩ := HF.out (by first | rfl | trivial)
    have he2 : (e == 0) = false := by simpa using he
    go_wp2
    go_ret
    exact ⟨by first | rfl | simp [he], F.bel⟩
  | true =>
    have HT2 := HT.out (by first | rfl | trivial)
    clear HT
    by_cases he : e = 0
    · have hl := HT2 he
      subst he
      clear HT2
      go_wp2
      go_ret
      exact ⟨by first | rfl | simp, F.bel⟩
    · have he2 : (e == 0) = false := by simpa using he
      clear HT2
      go_wp2
      go_ret
      exact ⟨by first | rfl | simp [he], F.bel⟩
set_option maxRecDepth 100000 in
set_option maxHeartbeats 2000000 in
theorem letters_neg (n salt c h : ByteArray) (ec e : Int) (m x : Int) (R : Bool) (q : Nat) (bits : Int) (W : World) (hq : q < 9223372036854775808) (hm : m = -((q : Int) + 1)) (h1 : Hid (∀ w, Calls Tryz.prog 13 #[.string n, .int .u64 bits] w fun en w' => en = .returned (.tuple #[.string c, .int .i64 ec]) ∧ Below w.heap.size w w')) (h2 : Hid (∀ w, Calls Tryz.prog 7 #[.string n, .string salt, .int .i64 ((q % 51 : Nat) : Int)] w fun en w' => en = .returned (.tuple #[.string h, .int .i64 e]) ∧ Below w.heap.size w w')) (h3 : Hid (∀ w, Calls Tryz.prog 7 #[.string c, .string salt, .int .i64 ((q % 51 : Nat) : Int)] w fun en w' => en = .returned (.tuple #[.string h, .int .i64 e]) ∧ Below w.heap.size w w')) (h4 : Hid (∀ w, Calls Tryz.prog 11 #[.string n] w fun en w' => en = .returned (.bool R) ∧ Below w.heap.size w w')) (hF : R = false → h = ⟨#[]⟩ ∧ e ≠ 0) (hT : R = true → e = 0 → h.size = 20) :
    Calls Tryz.prog 5 #[.string n, .string salt, .int .i64 m, .int .u64 bits] W fun e w' => e = .returned (.bool true) ∧ Below W.heap.size W w' := by
  have HX := Hid.mk examples9_in
  have HF := Hid.mk hF
  have HT := Hid.mk hT
  clear hF hT
  have hrem : IntKind.i64.wrap (Int.tmod (q : Int) 51) = ((q % 51 : Nat) : Int) := by
    have : Int.tmod (q : Int) 51 = ((q % 51 : Nat) : Int) := by rw [Int.tmod_eq_emod_of_nonneg (by omega)]; omega
    rw [this, IntKind.wrap_i64]; omega
  have hrem2 : Int.tmod (q : Int) 51 = ((q % 51 : Nat) : Int) := by rw [Int.tmod_eq_emod_of_nonneg (by omega)]; omega
  have d1 : decide (m < 0) = true := decide_eq_true (by omega)
  have d2 : m < 0 := by omega
  obtain ⟨y, hy⟩ : ∃ y, IntKind.i64.wrap (m + 1) = y := ⟨_, rfl⟩
  have hz : IntKind.i64.wrap (-y) = (q : Int) := by
    rw [← hy, hm, IntKind.wrap_i64, IntKind.wrap_i64]; omega
  generalize q % 51 = r at hrem hrem2 h2 h3
  clear hq hm
  have F := Fm.start W
  go_enter Tryz.func5, Tryz.ntmps5
  go_wp2_with fail
  refine (HX.out _).mono ?_
  rintro e0 u0 ⟨rfl, hb⟩
  replace F := F.blk hb
  clear hb
  go_wp2_with fail
  refine (h1.out _).mono ?_
  rintro e0 u1 ⟨rfl, hb⟩
  replace F := F.blk hb
  clear hb
  go_wp2_with fail
  refine (h2.out _).mono ?_
  rintro e0 u2 ⟨rfl, hb⟩
  replace F := F.blk hb
  clear hb
  go_wp2_with fail
  refine (h3.out _).mono ?_
  rintro e0 u3 ⟨rfl, hb⟩
  replace F := F.blk hb
  clear hb
  go_wp2_with fail
  refine (h4.out _).mono ?_
  rintro e0 u4 ⟨rfl, hb⟩
  replace F := F.blk hb
  clear hb
  cases R with
  | false =>
    obtain ⟨rfl, he⟩ := HF.out (by first | rfl | trivial)
    have he2 : (e == 0) = false := by simpa using he
    go_wp2
    go_ret
    exact ⟨by first | rfl | simp [he], F.bel⟩
  | true =>
    have HT2 := HT.out (by first | rfl | trivial)
    clear HT
    by_cases he : e = 0
    · have hl := HT2 he
      subst he
      clear HT2
      go_wp2
      go_ret
      exact ⟨by first | rfl | simp, F.bel⟩
    · have he2 : (e == 0) = false := by simpa using he
      clear HT2
      go_wp2
      go_ret
      exact ⟨by first | rfl | simp [he], F.bel⟩
theorem hashB_low {a b : List (List UInt8)} (h : lowN a = lowN b) (salt : ByteArray) (r : Nat) : hashB a salt r = hashB b salt r := by
  unfold hashB; rw [h]
theorem hashB_size (a : List (List UInt8)) (salt : ByteArray) (r : Nat) : (hashB a salt r).size = 20 := by
  show (hsh _ _ (r + 1)).toArray.size = 20
  rw [List.size_toArray, hsh]
  exact G.sha1_len _
theorem letters_walk (n : ByteArray) (hn : n.size ≤ 140737488355328) (salt : ByteArray) (hs : salt.size ≤ 140737488355328) (m : Int) (hm : (Lit.int .i64 m).wf = true) (x : Int) (hx : (Lit.int .u64 x).wf = true) (W : World) (hG : ZG W) : Calls Tryz.prog 5 #[.string n, .string salt, .int .i64 m, .int .u64 x] W fun e w' => e = .returned (.bool true) ∧ Below W.heap.size W w' := by
  have bm := Go.bounds_i64 hm
  have bx := Go.bounds_u64 hx
  have m1 : n.size ≤ maxLen := by unfold maxLen; omega
  have key : ∃ (q : Nat) (c h : ByteArray) (ec e : Int) (R : Bool), q < 9223372036854775808 ∧ (m = -((q : Int) + 1) ∨ m = q) ∧ (∀ w, Calls Tryz.prog 13 #[.string n, .int .u64 x] w fun e w' => e = .returned (.tuple #[.string c, .int .i64 ec]) ∧ Below w.heap.size w w') ∧ (∀ w, Calls Tryz.prog 7 #[.string n, .string salt, .int .i64 ((q % 51 : Nat) : Int)] w fun e' w' => e' = .returned (.tuple #[.string h, .int .i64 e]) ∧ Below w.heap.size w w') ∧ (∀ w, Calls Tryz.prog 7 #[.string c, .string salt, .int .i64 ((q % 51 : Nat) : Int)] w fun e' w' => e' = .returned (.tuple #[.string h, .int .i64 e]) ∧ Below w.heap.size w w') ∧ (∀ w, Calls Tryz.prog 11 #[.string n] w fun e w' => e = .returned (.bool R) ∧ Below w.heap.size w w') ∧ (R = false → h = ⟨#[]⟩ ∧ e ≠ 0) ∧ (R = true → e = 0 → h.size = 20) := by
    obtain ⟨q, hq, hmq⟩ : ∃ q : Nat, q < 9223372036854775808 ∧ (m = -((q : Int) + 1) ∨ m = q) := by
      by_cases h : m < 0
      · exact ⟨(-(m + 1)).toNat, by omega, Or.inl (by omega)⟩
      · exact ⟨m.toNat, by omega, Or.inr (by omega)⟩
    have hr : q % 51 ≤ 65535 := by omega
    by_cases h : IsName n
    · obtain ⟨ls, ho, rfl⟩ := h
      obtain ⟨cs, hc, hlow, he⟩ := cas_name ho x.toNat
      have hC := cased_yes ls ho x.toNat (by omega)
      rw [he, show ((x.toNat : Nat) : Int) = x by omega] at hC
      by_cases hz : salt.size ≤ 255
      · refine ⟨q, _, hashB ls salt (q % 51), _, 0, true, hq, hmq, hC, fun w => hash_ok ls ho salt hz _ hr w, fun w => ?_, right_yes ls ho, fun h => by simp at h, fun _ _ => hashB_size _ _ _⟩
        have := hash_ok cs hc salt hz _ hr w
        rwa [hashB_low hlow] at this
      · exact ⟨q, _, ⟨#[]⟩, _, 3, true, hq, hmq, hC, fun w => hash_long ls ho salt (by omega) _ hr w, fun w => hash_long cs hc salt (by omega) _ hr w, right_yes ls ho, fun h => by simp at h, fun _ h => by simp at h⟩
    · refine ⟨q, ⟨#[]⟩, ⟨#[]⟩, 2, 2, false, hq, hmq, fun w => cased_no n m1 h x w, fun w => hash_no n m1 h salt _ w, fun w => hash_no _ (Nat.zero_le _) (fun hn => ?_) salt _ w, fun w => right_no n h m1 w, fun _ => ⟨rfl, by decide⟩, fun h => by simp at h⟩
      obtain ⟨l, _, e⟩ := hn
      have h1 := nm_size l
      rw [← e] at h1
      exact absurd h1 (by show ¬ (0 = _); omega)
  obtain ⟨q, c, h, ec, e, R, hq, hmq, h1, h2, h3, h4, h5, h6⟩ := key
  rcases hmq with hmq | hmq
  · exact letters_neg n salt c h ec e m 0 R q x W hq hmq h1 h2 h3 h4 h5 h6
  · exact letters_pos n salt c h ec e m 0 R q x W hq hmq h1 h2 h3 h4 h5 h6
end Go.Proofs.YtaiakpigljcjbaaGreatDoor
