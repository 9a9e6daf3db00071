/- Cased. -/
import Derived.Lib.ConvBytes
import Derived.Test.YtpngjmeinlcggaaKin2
namespace Go.Proofs.Ytpngjmeinlcggaa
set_option linter.unusedVariables false
open Go.RowKit

def isLow (b : UInt8) : Bool := decide (97 ≤ b.toNat ∧ b.toNat ≤ 122)
def cnt (l : List UInt8) : Nat := (l.filter isLow).length
def bitAt (bits k : Nat) : Bool := decide (bits / 2 ^ (k % 64) % 2 = 1)
def casB (bits k : Nat) (b : UInt8) : UInt8 := if isLow b = true ∧ bitAt bits k = true then UInt8.ofNat (b.toNat - 32) else b
/-- the bytes with their letters as bits says, k letters having come. -/
def casGo (bits : Nat) : Nat → List UInt8 → List UInt8
  | _, [] => []
  | k, b :: t => casB bits k b :: casGo bits (if isLow b = true then k + 1 else k) t

theorem cnt_snoc (l : List UInt8) (b : UInt8) : cnt (l ++ [b]) = cnt l + if isLow b = true then 1 else 0 := by
  unfold cnt; rw [List.filter_append]
  by_cases h : isLow b = true <;> simp [h]
theorem cnt_le (l : List UInt8) : cnt l ≤ l.length := List.length_filter_le _ _
theorem cnt_cons (b : UInt8) (l : List UInt8) : cnt (b :: l) = (if isLow b = true then 1 else 0) + cnt l := by
  unfold cnt
  by_cases h : isLow b = true
  · simp [h]; omega
  · simp [h]
theorem casGo_snoc (bits : Nat) : ∀ (l : List UInt8) (k : Nat) (b : UInt8), casGo bits k (l ++ [b]) = casGo bits k l ++ [casB bits (k + cnt l) b]
  | [], k, b => by simp [casGo, cnt]
  | c :: l, k, b => by
    rw [List.cons_append, casGo, casGo_snoc bits l, casGo, cnt_cons]
    by_cases h : isLow c = true
    · simp [h]; congr 1; omega
    · simp [h]
theorem casGo_length (bits : Nat) : ∀ (l : List UInt8) (k : Nat), (casGo bits k l).length = l.length
  | [], k => rfl
  | c :: l, k => by simp [casGo, casGo_length bits l]

def casTo (bits : Nat) (l : List UInt8) (k : Nat) : List UInt8 := casGo bits 0 (l.take k) ++ l.drop k
theorem casTo_zero (bits : Nat) (l : List UInt8) : casTo bits l 0 = l := by simp [casTo, casGo]
theorem casTo_all (bits : Nat) (l : List UInt8) (k : Nat) (h : l.length ≤ k) : casTo bits l k = casGo bits 0 l := by simp [casTo, List.take_of_length_le h, List.drop_of_length_le h]
theorem casTo_length (bits : Nat) (l : List UInt8) (k : Nat) : (casTo bits l k).length = l.length := by simp [casTo, casGo_length]; omega
theorem casTo_get (bits : Nat) (l : List UInt8) (k : Nat) (h : k < l.length) : (casTo bits l k)[k]'(by rw [casTo_length]; exact h) = l[k] := by
  have h1 : (casGo bits 0 (l.take k)).length = k := by rw [casGo_length]; simp; omega
  unfold casTo
  rw [List.getElem_append_right (by omega)]
  simp [h1]
theorem casTo_succ (bits : Nat) (l : List UInt8) (k : Nat) (h : k < l.length) : (casTo bits l k).set k (casB bits (cnt (l.take k)) l[k]) = casTo bits l (k + 1) := by
  have h1 : (casGo bits 0 (l.take k)).length = k := by rw [casGo_length]; simp; omega
  unfold casTo
  rw [List.set_append_right _ _ (by omega), h1, Nat.sub_self, List.drop_eq_getElem_cons h, List.take_succ_eq_append_getElem h, List.set_cons_zero, casGo_snoc, Nat.zero_add, List.append_assoc]
  rfl
theorem casTo_same (bits : Nat) (l : List UInt8) (k : Nat) (h : k < l.length) (he : casB bits (cnt (l.take k)) l[k] = l[k]) : casTo bits l (k + 1) = casTo bits l k := by
  rw [← casTo_succ bits l k h, he]
  have := casTo_get bits l k h
  conv => lhs; rw [← this]
  exact List.set_getElem_self _
theorem set_self (l : List UInt8) (k : Nat) (h : k < l.length) : l.set k l[k] = l := List.set_getElem_self h

theorem bit_test (x m : Nat) (h : x < 18446744073709551616) : (Go.bits BinOp.and IntKind.u64 ((x : Int) / 2 ^ (m % 64)) 1 == 1) = bitAt x m := by
  have e : ((x : Int) / 2 ^ (m % 64)) = ((x / 2 ^ (m % 64) : Nat) : Int) := by
    rw [Int.natCast_ediv, Int.natCast_pow]; rfl
  have hle : x / 2 ^ (m % 64) ≤ x := Nat.div_le_self _ _
  rw [e, bitAt]
  generalize x / 2 ^ (m % 64) = y at hle ⊢
  rw [and_one_u64 _ (by omega) (by omega), Bool.eq_iff_iff, beq_iff_eq, decide_eq_true_iff]
  omega

theorem cased_no (s : ByteArray) (hs : s.size ≤ maxLen) (h : ¬ IsName s) (x : Int) (w : World) :
    Calls Try.prog 36 #[.string s, .int .u64 x] w fun e w' => e = .returned (.tuple #[.string ⟨#[]⟩, .int .i64 2]) ∧ Below w.heap.size w w' := by
  go_enter Try.func36, Try.ntmps36
  go_wp2_with fail
  refine (right_no s h hs _).mono ?_
  rintro e w1 ⟨rfl, hb1⟩
  go_wp2
  go_ret2
  exact ⟨rfl, hb1⟩

theorem bytesWorld_bytes (w : World) (s : ByteArray) : BytesAt (Lib.bytesWorld w 5 s) w.heap.size s.data.toList := by
  intro j hj
  refine ⟨?_, ?_⟩
  · rw [Lib.bytesWorld_cell w 5 s j (by rw [size_list] at hj; exact hj)]
    rw [show s.data.toList.getD j 0 = s.data.toList[j] by rw [List.getD_eq_getElem?_getD, List.getElem?_eq_getElem hj]; rfl]
  · have hj' : j < s.size := by rw [size_list] at hj; exact hj
    have hc : s.size ≤ (Lib.bytesCells w 5 s).size := by simp [Lib.bytesCells]
    simp [World.frozen?, Lib.bytesWorld_at_new]
    omega

theorem below_bytes (w : World) (s : ByteArray) : Below w.heap.size w (Lib.bytesWorld w 5 s) :=
  ⟨rfl, rfl, rfl, by rw [Lib.bytesWorld_size]; omega, fun k hk => Lib.bytesWorld_at_old w 5 s k hk⟩

set_option maxHeartbeats 1000000 in
theorem cased_yes (ls : List (List UInt8)) (ho : OkN ls) (bits : Nat) (hbits : bits < 18446744073709551616) (w : World) :
    Calls Try.prog 36 #[.string (nm ls), .int .u64 (bits : Int)] w fun e w' => e = .returned (.tuple #[.string ⟨(casGo bits 0 (nm (lowN ls)).data.toList).toArray⟩, .int .i64 0]) ∧ Below w.heap.size w w' := by
  have hz : (nm (lowN ls)).size ≤ 255 := by rw [nm_size]; have := ho.low.len; omega
  have hcv := fun W : World => Lib.run_convert_string_bytes (P := Try.prog) W 9 56 5 (nm (lowN ls)) Try.underlying9 Try.underlying56 Try.underlying5
  obtain ⟨s, hs⟩ : ∃ s, nm (lowN ls) = s := ⟨_, rfl⟩
  have HB := Hid.mk hbits
  clear hbits
  go_enter Try.func36, Try.ntmps36
  go_wp2_with fail
  refine (right_yes ls ho _).mono ?_
  rintro e w1 ⟨rfl, hb1⟩
  go_wp2_with fail
  refine (lowered_nm ls ho _).mono ?_
  rintro e w2 ⟨rfl, hb2⟩
  rw [hs] at hcv hz ⊢
  go_wp2_with fail
  clear hcv
  have hby0 := bytesWorld_bytes w2 s
  have hbe0 := below_bytes w2 s
  go_loopw [7, 18] (fun n i wr => ∃ k : Nat, k ≤ s.size ∧ i = .int .i64 k ∧ n = .int .i64 (cnt (s.data.toList.take k) : Nat) ∧ BytesAt wr w2.heap.size (casTo bits s.data.toList k) ∧ Below w2.heap.size w2 wr) (fun _ i _ => s.size - (intOf i).toNat)
  case atStart => exact ⟨0, Nat.zero_le _, rfl, by simp [cnt], by rw [casTo_zero]; exact hby0, hbe0⟩
  case round =>
    clear hby0 hbe0
    obtain ⟨k, hk, rfl, rfl, hby, hbl⟩ := hrel
    by_cases hlt : k < s.size
    · have hlt' : k < s.data.toList.length := by rw [size_list]; exact hlt
      have hj := hby k (by rw [casTo_length]; exact hlt')
      rw [casTo_get _ _ _ hlt'] at hj
      obtain ⟨hc, hf⟩ := hj
      have hn := (hby.set k (casB bits (cnt (s.data.toList.take k)) s.data.toList[k]))
      rw [casTo_succ _ _ _ hlt'] at hn
      have hsame := casTo_same bits s.data.toList k hlt'
      have hcn : cnt (s.data.toList.take k) ≤ 255 := by have := cnt_le (s.data.toList.take k); simp at this; omega
      have hcs := cnt_snoc (s.data.toList.take k) s.data.toList[k]
      rw [← List.take_succ_eq_append_getElem hlt'] at hcs
      have HC := Hid.mk hcs
      have HN := Hid.mk hn
      have HS := Hid.mk hsame
      clear hn hsame hcs
      generalize s.data.toList[k] = c at hc HN HS HC
      generalize hm : cnt (s.data.toList.take k) = m at hcn HN HS HC ⊢
      have HM := Hid.mk hm
      clear hm
      have hc8 := c.toNat_lt
      by_cases h1 : 97 ≤ c.toNat
      · by_cases h2 : c.toNat ≤ 122
        · have hlow : isLow c = true := by simp [isLow, h1, h2]
          have hm1 : cnt (s.data.toList.take (k + 1)) = m + 1 := by rw [HC.out, hlow]; simp
          have HM1 := Hid.mk hm1
          have hbt := bit_test bits m HB.out
          by_cases hbit : bitAt bits m = true
          · have hcb : ((casB bits m c).toNat : Int) = (c.toNat : Int) - 32 := by
              unfold casB; rw [if_pos ⟨hlow, hbit⟩]; simp; omega
            have HN1 := HN.out
            rw [hcb] at HN1
            have HN2 := Hid.mk HN1
            rw [hbit] at hbt
            clear HN1 hcb hbit hlow hm1
            go_wp2
            exact ⟨⟨k + 1, by omega, by go_num, by rw [HM1.out]; go_num, HN2.out, hbl.setCell (p := ⟨w2.heap.size, k, none⟩) (Nat.le_refl _) _⟩, by simp [intOf]; omega⟩
          · have e : casTo bits s.data.toList (k + 1) = casTo bits s.data.toList k := HS.out (by simp [casB, hbit])
            have HE := Hid.mk e
            have hbit' : bitAt bits m = false := by simpa using hbit
            rw [hbit'] at hbt
            clear e hbit hbit' hlow hm1
            go_wp2
            exact ⟨⟨k + 1, by omega, by go_num, by rw [HM1.out]; go_num, by rw [HE.out]; exact hby, hbl⟩, by simp [intOf]; omega⟩
        · have hlow : isLow c = false := by simp [isLow]; omega
          have e : casTo bits s.data.toList (k + 1) = casTo bits s.data.toList k := HS.out (by simp [casB, hlow])
          have hm1 : cnt (s.data.toList.take (k + 1)) = m := by rw [HC.out, hlow]; simp
          have HE := Hid.mk e
          have HM1 := Hid.mk hm1
          clear e hm1 hlow
          go_wp2
          go_roundw
          case rel => exact ⟨k + 1, by omega, by go_num, by rw [HM1.out], by rw [HE.out]; exact hby, hbl⟩
          case measure => simp [intOf]; omega
      · have hlow : isLow c = false := by simp [isLow]; omega
        have e : casTo bits s.data.toList (k + 1) = casTo bits s.data.toList k := HS.out (by simp [casB, hlow])
        have hm1 : cnt (s.data.toList.take (k + 1)) = m := by rw [HC.out, hlow]; simp
        have HE := Hid.mk e
        have HM1 := Hid.mk hm1
        clear e hm1 hlow
        go_wp2
        go_roundw
        case rel => exact ⟨k + 1, by omega, by go_num, by rw [HM1.out], by rw [HE.out]; exact hby, hbl⟩
        case measure => simp [intOf]; omega
    · have hfin : casTo bits s.data.toList k = casGo bits 0 s.data.toList := casTo_all _ _ _ (by rw [size_list]; omega)
      rw [hfin] at hby
      have hcv := run_convert_bytes_back (P := Try.prog) wr 56 9 5 ⟨w2.heap.size, 0, none⟩ (grownCap w2 s.size 0 5) (casGo bits 0 s.data.toList) Try.underlying56 Try.underlying5 Try.underlying9 (fun j hj => by rw [add_at]; exact (hby j hj).1)
      rw [casGo_length, size_list] at hcv
      clear hfin hby
      go_wp2
      go_ret2
      exact ⟨by rw [hs]; rfl, bthen hb1 (bthen hb2 hbl)⟩
end Go.Proofs.Ytpngjmeinlcggaa
