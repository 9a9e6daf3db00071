/- The document's Base32. -/
import Derived.Test.YtdecmbpmgnoelaaDoorGRFact
namespace Go.Proofs.YtdecmbpmgnoelaaDoor
set_option linter.unusedVariables false
open Go.RowKit
/-- the bit at place k of a text, 0 behind its end. -/
def bitA (l : List UInt8) (k : Nat) : Nat := if k < 8 * l.length then (l[k / 8]?.getD 0).toNat / 2 ^ (7 - k % 8) % 2 else 0
/-- m bits from a place on, as a number. -/
def bitsN (l : List UInt8) (a : Nat) : Nat → Nat
  | 0 => 0
  | m + 1 => 2 * bitsN l a m + bitA l (a + m)
theorem bitA_lt (l : List UInt8) (k : Nat) : bitA l k < 2 := by unfold bitA; split <;> omega
theorem bitsN_lt (l : List UInt8) (a : Nat) : ∀ m, bitsN l a m < 2 ^ m
  | 0 => by simp [bitsN]
  | m + 1 => by have := bitsN_lt l a m; have := bitA_lt l (a + m); rw [bitsN, Nat.pow_succ]; omega
/-- the k-th letter. -/
def l32 (l : List UInt8) (k : Nat) : UInt8 := ltr (UInt8.ofNat (bitsN l (5 * k) 5))
theorem ext_ltr (v : Nat) (h : v < 32) : (⟨#[48, 49, 50, 51, 52, 53, 54, 55, 56, 57, 97, 98, 99, 100, 101, 102, 103, 104, 105, 106, 107, 108, 109, 110, 111, 112, 113, 114, 115, 116, 117, 118]⟩ : ByteArray).extract v (v + 1) = ⟨[ltr (UInt8.ofNat v)].toArray⟩ := by
  revert h
  revert v
  have : ∀ v : Fin 32, (⟨#[48, 49, 50, 51, 52, 53, 54, 55, 56, 57, 97, 98, 99, 100, 101, 102, 103, 104, 105, 106, 107, 108, 109, 110, 111, 112, 113, 114, 115, 116, 117, 118]⟩ : ByteArray).extract v.val (v.val + 1) = ⟨[ltr (UInt8.ofNat v.val)].toArray⟩ := by decide
  exact fun v h => this ⟨v, h⟩
def nl (n : Nat) : Nat := (8 * n + 4) / 5
set_option maxRecDepth 100000 in
set_option maxHeartbeats 2000000 in
theorem rb32_in (s : ByteArray) (hs : s.size ≤ 1048576) (W : World) : Calls Tryd.prog 18 #[.string s] W fun e w' => e = .returned (.string ⟨((List.range (nl s.size)).map (l32 s.data.toList)).toArray⟩) ∧ Below W.heap.size W w' := by
  obtain ⟨n, hn⟩ : ∃ n, s.size = n := ⟨_, rfl⟩
  obtain ⟨l, hl⟩ : ∃ l, s.data.toList = l := ⟨_, rfl⟩
  have HLN : Hid (l.length = n) := by rw [Hid, ← hl, size_list]; exact hn
  have HIX : Hid (∀ m, m < n → ∀ W : World, (Instr.index 9 (.string s) (.int .i64 (m : Int))).run Tryd.prog W = .ok (.int .u8 ((l[m]?.getD 0).toNat : Int)) W) := fun m hm W => index_get s m _ (by omega) (by rw [hl]) W
  rw [hl, hn]
  have hn2 : n ≤ 1048576 := by omega
  clear hl hs
  go_enter Tryd.func18, Tryd.ntmps18
  go_wp2_with fail
  go_loopw [3, 5] (fun v i wr => ∃ k p d : Nat, ∃ u : ByteArray, Hid (p = 5 * k) ∧ p ≤ 8 * n + 4 ∧ i = .int .i64 (p : Int) ∧ v = .string u ∧ Hid (u = ⟨((List.range k).map (l32 l)).toArray⟩) ∧ u.size ≤ 2000000 ∧ wr = W.drewN d) (fun _ i _ => 8 * n + 5 - (intOf i).toNat)
  case atStart => exact ⟨0, 0, 0, ⟨#[]⟩, rfl, by omega, rfl, rfl, rfl, by show 0 ≤ 2000000; omega, rfl⟩
  case round =>
    obtain ⟨k, p, d, u, HPK, hp, rfl, rfl, HU, hu, rfl⟩ := hrel
    by_cases hlt : p < 8 * n
    · have hlt' : (p : Int) < 8 * (n : Int) := by omega
      go_wp2_with fail
      go_loopw [6, 7] (fun v i w2 => ∃ m q d2 V : Nat, m ≤ 5 ∧ Hid (q = p + m) ∧ q ≤ p + 5 ∧ i = .int .i64 (q : Int) ∧ v = .int .i64 (V : Int) ∧ Hid (V = bitsN l p m) ∧ V < 2 ^ m ∧ w2 = W.drewN d2) (fun _ i _ => p + 5 - (intOf i).toNat)
      case atStart => exact ⟨0, p, d, 0, by omega, rfl, by omega, rfl, rfl, rfl, by simp, rfl⟩
      case round =>
        obtain ⟨m, q, d2, V, hm, HQ, hq, rfl, rfl, HV, hV, rfl⟩ := hrel
        have hV32 : V < 32 := by have : 2 ^ m ≤ 2 ^ 5 := Nat.pow_le_pow_right (by omega) hm; omega
        have HV2 := Hid.mk hV
        clear hV
        by_cases h5 : q < p + 5
        · have h5' : (q : Int) < (p : Int) + 5 := by omega
          have HNX : Hid (bitsN l p (m + 1) = 2 * V + bitA l q) := by rw [Hid, bitsN, ← HV.out, HQ.out]
          have hblt := bitA_lt l q
          by_cases hin : q < 8 * n
          · have hin' : (q : Int) < 8 * (n : Int) := by omega
            obtain ⟨q8, h8⟩ : ∃ q8, q / 8 = q8 := ⟨_, rfl⟩
            obtain ⟨r8, hr8⟩ : ∃ r8, q % 8 = r8 := ⟨_, rfl⟩
            have hr : r8 < 8 := by omega
            have hix := HIX.out q8 (by omega)
            have HBA : Hid (bitA l q = (l[q8]?.getD 0).toNat / 2 ^ (7 - r8) % 2) := by rw [Hid, bitA, HLN.out, if_pos hin, h8, hr8]
            generalize l[q8]?.getD 0 = c at hix HBA
            have t1 : (q : Int).tdiv 8 = (q8 : Int) := by rw [Int.tdiv_eq_ediv_of_nonneg (by omega)]; omega
            have t2 : (q : Int) / 8 = (q8 : Int) := by omega
            have t3 : (q : Int).tmod 8 = (r8 : Int) := by rw [Int.tmod_eq_emod_of_nonneg (by omega)]; omega
            have t4 : (q : Int) % 8 = (r8 : Int) := by omega
            have t5 : ((7 : Int) - (r8 : Int)).toNat = 7 - r8 := by omega
            have hc8 := c.toNat_lt
            obtain ⟨g, hg⟩ : ∃ g, c.toNat / 2 ^ (7 - r8) = g := ⟨_, rfl⟩
            have hg8 : g < 256 := by rw [← hg]; exact Nat.lt_of_le_of_lt (Nat.div_le_self _ _) hc8
            have t6 : (c.toNat : Int) / 2 ^ (7 - r8) = (g : Int) := by rw [← hg, Int.natCast_ediv, Int.natCast_pow]; rfl
            have t7 : (g : Int).tmod 2 = ((g % 2 : Nat) : Int) := by rw [Int.tmod_eq_emod_of_nonneg (by omega)]; omega
            have t8 : (g : Int) % 2 = ((g % 2 : Nat) : Int) := by omega
            rw [hg] at HBA
            obtain ⟨b, hb⟩ : ∃ b, g % 2 = b := ⟨_, rfl⟩
            rw [hb] at HBA t7 t8
            have hb2 : b < 2 := by omega
            have t9 : IntKind.u8.wrap (b : Int) = (b : Int) := by rw [IntKind.wrap_u8]; omega
            clear h8 hr8 hg hb hblt
            go_wp2
            go_roundw
            case rel => exact ⟨m + 1, q + 1, d2, 2 * V + b, by have := HQ.out; omega, by rw [Hid, HQ.out]; omega, by omega, by go_num, by go_num, by rw [Hid, HNX.out, HBA.out], by have := HV2.out; rw [Nat.pow_succ]; omega, rfl⟩
            case measure => simp [intOf]; omega
          · have hin' : 8 * (n : Int) ≤ (q : Int) := by omega
            have HBA : Hid (bitA l q = 0) := by rw [Hid, bitA, HLN.out, if_neg hin]
            go_wp2
            go_roundw
            case rel => exact ⟨m + 1, q + 1, d2, 2 * V, by have := HQ.out; omega, by rw [Hid, HQ.out]; omega, by omega, by go_num, by go_num, by rw [Hid, HNX.out, HBA.out]; rfl, by have := HV2.out; rw [Nat.pow_succ]; omega, rfl⟩
            case measure => simp [intOf]; omega
        · have h5' : (p : Int) + 5 ≤ (q : Int) := by omega
          have HM5 : Hid (V = bitsN l p 5) := by rw [Hid, HV.out, show m = 5 by have := HQ.out; omega]
          have hext := ext_ltr V hV32
          have HLK : Hid (ltr (UInt8.ofNat V) = l32 l k) := by rw [Hid, l32, HM5.out, HPK.out]
          obtain ⟨y, HY⟩ : ∃ y, Hid (ltr (UInt8.ofNat V) = y) := ⟨_, rfl⟩
          rw [HY.out] at hext
          have hys : (⟨[y].toArray⟩ : ByteArray).size = 1 := rfl
          obtain ⟨Y, hY⟩ : ∃ Y : ByteArray, (⟨[y].toArray⟩ : ByteArray) = Y := ⟨_, rfl⟩
          rw [hY] at hext hys
          have HYY := Hid.mk hY
          have HCAT : Hid (u ++ Y = ⟨((List.range (k + 1)).map (l32 l)).toArray⟩) := by
            rw [Hid, ← HYY.out, HU.out]
            apply ba_ext
            rw [ByteArray.data_append, Array.toList_append, List.range_succ, List.map_append, List.map_singleton, ← HLK.out, HY.out]
          have hus : u.size ≤ 1900000 := by
            have h1 : u.size = k := by rw [HU.out, ba_size, List.length_map, List.length_range]
            have := HPK.out
            omega
          have b1 : (V : Int) + 1 ≤ 32 := by omega
          have b2 : ((V : Int) + 1).toNat = V + 1 := by omega
          clear hY HV HV2 HQ
          go_wp2
          go_roundw
          case rel => exact ⟨k + 1, p + 5, d2, u ++ Y, by rw [Hid, HPK.out]; omega, by omega, by go_num, rfl, HCAT, by rw [ByteArray.size_append, hys]; omega, rfl⟩
          case measure => simp [intOf]; omega
    · have hlt' : 8 * (n : Int) ≤ (p : Int) := by omega
      have HKN : Hid (k = nl n) := by rw [Hid, nl]; have := HPK.out; omega
      rw [HKN.out] at HU
      go_wp2
      go_ret
      exact ⟨by rw [← HU.out]; rfl, below_dn W d⟩
end Go.Proofs.YtdecmbpmgnoelaaDoor
