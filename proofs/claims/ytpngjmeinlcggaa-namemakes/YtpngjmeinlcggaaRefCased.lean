/- The document's own Cased (guidepostref01). -/
import Derived.Test.YtpngjmeinlcggaaRefMake
import Derived.Test.YtpngjmeinlcggaaRefLower
namespace Go.Proofs.Ytpngjmeinlcggaa
set_option linter.unusedVariables false
open Go.RowKit

theorem casGo_append (bits : Nat) : ∀ (a : List UInt8) (k : Nat) (b : List UInt8), casGo bits k (a ++ b) = casGo bits k a ++ casGo bits (k + cnt a) b
  | [], k, b => by simp [casGo, cnt]
  | c :: a, k, b => by
    rw [List.cons_append, casGo, casGo_append bits a, casGo, cnt_cons]
    by_cases h : isLow c = true
    · simp [h, Nat.add_assoc]
    · simp [h]

/-- labels with their letters as bits says, k letters having come. -/
def casN (bits : Nat) : Nat → List (List UInt8) → List (List UInt8)
  | _, [] => []
  | k, l :: t => casGo bits k l :: casN bits (k + cnt l) t

theorem cnt_append (a b : List UInt8) : cnt (a ++ b) = cnt a + cnt b := by unfold cnt; rw [List.filter_append, List.length_append]

theorem casN_snoc (bits : Nat) : ∀ (ls : List (List UInt8)) (k : Nat) (l : List UInt8), casN bits k (ls ++ [l]) = casN bits k ls ++ [casGo bits (k + cnt ls.flatten) l]
  | [], k, l => by simp [casN, cnt]
  | m :: ls, k, l => by
    rw [List.cons_append, casN, casN_snoc bits ls, casN, List.flatten_cons, cnt_append, Nat.add_assoc]; rfl
theorem casN_length (bits : Nat) : ∀ (ls : List (List UInt8)) (k : Nat), (casN bits k ls).length = ls.length
  | [], k => rfl
  | m :: ls, k => by simp [casN, casN_length bits ls]

theorem low_len {n : Nat} (h : n ≤ 63) : isLow (UInt8.ofNat n) = false := by
  have : (UInt8.ofNat n).toNat = n := by simp; omega
  simp [isLow]; omega

theorem casN_flat (bits : Nat) : ∀ (ls : List (List UInt8)) (k : Nat), (∀ l ∈ ls, l.length ≤ 63) → casGo bits k (flat ls ++ [0]) = flat (casN bits k ls) ++ [0]
  | [], k, h => by simp [casN, flat, casGo, casB, isLow]
  | m :: ls, k, h => by
    have h1 := low_len (h m (by simp))
    rw [flat, List.cons_append, casGo, List.append_assoc, casGo_append, casN, flat, casGo_length, List.cons_append]
    rw [if_neg (by rw [h1]; simp), casN_flat bits ls _ (fun l hl => h l (by simp [hl])), casB, if_neg (by rw [h1]; simp), List.append_assoc]

theorem casN_good (bits : Nat) : ∀ (ls : List (List UInt8)) (k : Nat), (∀ l ∈ ls, goodL l) → ∀ l ∈ casN bits k ls, goodL l
  | [], k, h => by simp [casN]
  | m :: ls, k, h => by
    intro l hl
    rw [casN] at hl
    rcases List.mem_cons.1 hl with rfl | hl
    · unfold goodL; rw [casGo_length]; exact h m (by simp)
    · exact casN_good bits ls _ (fun l hl => h l (by simp [hl])) l hl

def casAt (bits k0 : Nat) (l : List UInt8) (k : Nat) : List UInt8 := casGo bits k0 (l.take k) ++ l.drop k
theorem casAt_zero (bits k0 : Nat) (l : List UInt8) : casAt bits k0 l 0 = l := by simp [casAt, casGo]
theorem casAt_all (bits k0 : Nat) (l : List UInt8) (k : Nat) (h : l.length ≤ k) : casAt bits k0 l k = casGo bits k0 l := by simp [casAt, List.take_of_length_le h, List.drop_of_length_le h]
theorem casAt_length (bits k0 : Nat) (l : List UInt8) (k : Nat) : (casAt bits k0 l k).length = l.length := by simp [casAt, casGo_length]; omega
theorem casAt_get (bits k0 : Nat) (l : List UInt8) (k : Nat) (h : k < l.length) : (casAt bits k0 l k)[k]'(by rw [casAt_length]; exact h) = l[k] := by
  have h1 : (casGo bits k0 (l.take k)).length = k := by rw [casGo_length]; simp; omega
  unfold casAt
  rw [List.getElem_append_right (by omega)]
  simp [h1]
theorem casAt_succ (bits k0 : Nat) (l : List UInt8) (k : Nat) (h : k < l.length) : (casAt bits k0 l k).set k (casB bits (k0 + cnt (l.take k)) l[k]) = casAt bits k0 l (k + 1) := by
  have h1 : (casGo bits k0 (l.take k)).length = k := by rw [casGo_length]; simp; omega
  unfold casAt
  rw [List.set_append_right _ _ (by omega), h1, Nat.sub_self, List.drop_eq_getElem_cons h, List.take_succ_eq_append_getElem h, List.set_cons_zero, casGo_snoc, List.append_assoc]
  rfl
theorem casAt_same (bits k0 : Nat) (l : List UInt8) (k : Nat) (h : k < l.length) (he : casB bits (k0 + cnt (l.take k)) l[k] = l[k]) : casAt bits k0 l (k + 1) = casAt bits k0 l k := by
  rw [← casAt_succ bits k0 l k h, he]
  have := casAt_get bits k0 l k h
  conv => lhs; rw [← this]
  exact List.set_getElem_self _

theorem rCased_no (s : ByteArray) (hs : s.size ≤ maxLen) (h : ¬ IsName s) (x : Int) (w : World) :
    Calls Try.prog 37 #[.string s, .int .u64 x] w fun e w' => e = .returned (.tuple #[.string ⟨#[]⟩, .int .i64 2]) ∧ Below w.heap.size w w' := by
  go_enter Try.func37, Try.ntmps37
  go_wp2_with fail
  refine (rLabels_none s hs h _).mono ?_
  rintro e w1 ⟨rfl, hb1⟩
  go_wp2
  go_ret2
  exact ⟨rfl, hb1⟩

theorem bit_test2 (x m : Nat) : ((((x : Int) / 2 ^ (m % 64)).tmod 2) == 1) = bitAt x m := by
  have e : ((x : Int) / 2 ^ (m % 64)) = ((x / 2 ^ (m % 64) : Nat) : Int) := by
    rw [Int.natCast_ediv, Int.natCast_pow]; rfl
  rw [e, bitAt]
  generalize x / 2 ^ (m % 64) = y
  rw [Int.tmod_eq_emod_of_nonneg (by omega), Bool.eq_iff_iff, beq_iff_eq, decide_eq_true_iff]
  omega

theorem flatten_le : ∀ ls : List (List UInt8), ls.flatten.length ≤ (flat ls).length
  | [] => by simp [flat]
  | l :: ls => by have := flatten_le ls; simp only [List.flatten_cons, List.length_append, flat, List.length_cons]; omega

/-- how the loop over the labels stands. -/
def CasRel (bits : Nat) (ls : List (List UInt8)) (n₀ : Nat) (w : World) (kv ov i : Value) (wr : World) : Prop :=
  ∃ k : Nat, k ≤ ls.length ∧ i = .int .i64 k ∧ kv = .int .i64 (cnt (ls.take k).flatten : Nat) ∧ wr.ownsRow n₀ 9 1 ov k (strsV (casN bits 0 (ls.take k))) ∧ Below n₀ w wr

set_option maxHeartbeats 2000000 in
theorem rCased_yes (ls : List (List UInt8)) (ho : OkN ls) (bits : Nat) (hbits : bits < 18446744073709551616) (w : World) :
    Calls Try.prog 37 #[.string (nm ls), .int .u64 (bits : Int)] w fun e w' => e = .returned (resV (ofR (casN bits 0 (lowN ls)))) ∧ Below w.heap.size w w' := by
  have hcl := ho.count
  have HOf := Hid.mk (fun v w h => rOf_in v (casN bits 0 (lowN ls)) w h (by rw [casN_length]; simp [lowN]; unfold maxLen; omega) (casN_good bits _ 0 ho.low.lab))
  generalize ofR (casN bits 0 (lowN ls)) = r at HOf ⊢
  obtain ⟨rx, rc⟩ := r
  obtain ⟨i0, hi, hz0, hz1, hz2⟩ := info_parts info9
  go_enter Try.func37, Try.ntmps37
  go_wp2_with fail
  refine (rLabels_yes ls ho _).mono ?_
  rintro e w1 ⟨⟨v, rfl, hv⟩, hb1⟩
  obtain ⟨q, c, hq⟩ := hv.form
  subst hq
  go_wp2
  go_loopw [8, 9, 10] (fun kv ov i wr => CasRel bits (lowN ls) w1.heap.size w1 kv ov i wr) (fun _ _ i _ => ls.length - (intOf i).toNat)
  case atStart => exact ⟨0, Nat.zero_le _, rfl, rfl, World.ownsRow_nil .., Below.refl _ _⟩
  case round =>
    obtain ⟨wo, rfl⟩ : ∃ wo : World, wo = wr := ⟨_, rfl⟩
    obtain ⟨k, hk, rfl, rfl, hrow, hbl⟩ := hrel
    have hll : (lowN ls).length = ls.length := by simp [lowN]
    have hsize := hbl.size
    by_cases hlt : k < ls.length
    · obtain ⟨g, hg, hgq, hcl⟩ : ∃ g, q = some ⟨g, 0, none⟩ ∧ g < w1.heap.size ∧ w1.cell? ⟨g, k, none⟩ = some (strV ls[k]) := by
        rcases hv with ⟨_, h⟩ | ⟨g, cap, hv, hg, hc⟩
        · rw [h] at hlt; simp at hlt
        · cases hv; exact ⟨g, rfl, hg, hc k hlt⟩
      subst hg
      obtain ⟨t, ht1, ht2, ht3⟩ := toBA ls[k]
      have hgd := ho.lab _ (List.getElem_mem hlt)
      have hcx : wo.cell? ⟨g, k, none⟩ = some (.string t) := by rw [← ht1]; exact (hbl.cell (p := ⟨g, k, none⟩) hgq).trans hcl
      have h2 : t.size ≤ 63 := by rw [ht3]; exact hgd.2
      have hgw : g < wo.heap.size := Nat.lt_of_lt_of_le hgq hbl.size
      obtain ⟨u, hu⟩ : ∃ u : ByteArray, (⟨(t.data.toList.map lowB).toArray⟩ : ByteArray) = u := ⟨_, rfl⟩
      have hus : u.size ≤ 63 := by rw [← hu, ba_size, List.length_map, size_list]; exact h2
      have hSm := small_in t (by omega)
      rw [hu] at hSm
      have HSm := Hid.mk hSm
      have hlu : (lowN ls)[k]'(by omega) = u.data.toList := by rw [← hu, ht2]; simp [lowN]
      have HTk : Hid ((lowN ls).take (k + 1) = (lowN ls).take k ++ [u.data.toList]) := by
        rw [Hid, List.take_succ_eq_append_getElem (by omega), hlu]
      have hc0 : cnt ((lowN ls).take k).flatten ≤ 254 := by
        have a1 := cnt_le ((lowN ls).take k).flatten
        have a2 := flatten_le ((lowN ls).take k)
        have a3 := flat_low_le ls k
        have a4 : lowN (ls.take k) = (lowN ls).take k := by simp [lowN, List.map_take]
        have a5 := ho.len
        rw [a4] at a3
        omega
      clear ht1 ht2 ht3 hu hSm hlu hgd hcl
      generalize hk0 : cnt ((lowN ls).take k).flatten = k0 at hc0 ⊢
      have HK0 := Hid.mk hk0
      clear hk0
      go_wp2_with fail
      refine (HSm.out _).mono ?_
      rintro e w2 ⟨rfl, hb2⟩
      have hcv := fun W : World => Lib.run_convert_string_bytes (P := Try.prog) W 9 56 5 u Try.underlying9 Try.underlying56 Try.underlying5
      go_wp2
      clear hcv
      have hby0 := bytesWorld_bytes w2 u
      have hbe0 := below_bytes w2 u
      go_loopw [8, 12] (fun n j wr => ∃ m : Nat, m ≤ u.size ∧ j = .int .i64 m ∧ n = .int .i64 (k0 + cnt (u.data.toList.take m) : Nat) ∧ BytesAt wr w2.heap.size (casAt bits k0 u.data.toList m) ∧ Below w2.heap.size w2 wr) (fun _ j _ => u.size - (intOf j).toNat)
      case atStart => exact ⟨0, Nat.zero_le _, rfl, by simp [cnt], by rw [casAt_zero]; exact hby0, hbe0⟩
      case round =>
        clear hby0 hbe0
        obtain ⟨m, hm, rfl, rfl, hby, hbl2⟩ := hrel
        by_cases hltm : m < u.size
        · have hlt' : m < u.data.toList.length := by rw [size_list]; exact hltm
          have hj := hby m (by rw [casAt_length]; exact hlt')
          rw [casAt_get _ _ _ _ hlt'] at hj
          obtain ⟨hc, hf⟩ := hj
          have hn := (hby.set m (casB bits (k0 + cnt (u.data.toList.take m)) u.data.toList[m]))
          rw [casAt_succ _ _ _ _ hlt'] at hn
          have hsame := casAt_same bits k0 u.data.toList m hlt'
          have hcn : cnt (u.data.toList.take m) ≤ 255 := by have := cnt_le (u.data.toList.take m); simp at this; omega
          have hcs := cnt_snoc (u.data.toList.take m) u.data.toList[m]
          rw [← List.take_succ_eq_append_getElem hlt'] at hcs
          have HC := Hid.mk hcs
          have HN := Hid.mk hn
          have HS := Hid.mk hsame
          clear hn hsame hcs
          generalize u.data.toList[m] = c at hc HN HS HC
          generalize hz : k0 + cnt (u.data.toList.take m) = z at HN HS ⊢
          have hzb : z ≤ 600 := by omega
          have HM := Hid.mk hz
          clear hz
          have hc8 := c.toNat_lt
          by_cases h1 : 97 ≤ c.toNat
          · by_cases h2 : c.toNat ≤ 122
            · have hlow : isLow c = true := by simp [isLow, h1, h2]
              have hm1 : k0 + cnt (u.data.toList.take (m + 1)) = z + 1 := by rw [HC.out, hlow, ← HM.out]; simp; omega
              have HM1 := Hid.mk hm1
              have hbt := bit_test2 bits z
              by_cases hbit : bitAt bits z = true
              · have hcb : ((casB bits z c).toNat : Int) = (c.toNat : Int) - 32 := by
                  unfold casB; rw [if_pos ⟨hlow, hbit⟩]; simp; omega
                have HN1 := HN.out
                rw [hcb] at HN1
                have HN2 := Hid.mk HN1
                rw [hbit] at hbt
                clear HN1 hcb hbit hlow hm1
                go_wp2
                exact ⟨⟨m + 1, by omega, by go_num, by rw [HM1.out]; go_num, HN2.out, hbl2.setCell (p := ⟨w2.heap.size, m, none⟩) (Nat.le_refl _) _⟩, by simp [intOf]; omega⟩
              · have e : casAt bits k0 u.data.toList (m + 1) = casAt bits k0 u.data.toList m := HS.out (by simp [casB, hbit])
                have HE := Hid.mk e
                have hbit' : bitAt bits z = false := by simpa using hbit
                rw [hbit'] at hbt
                clear e hbit hbit' hlow hm1
                go_wp2
                exact ⟨⟨m + 1, by omega, by go_num, by rw [HM1.out]; go_num, by rw [HE.out]; exact hby, hbl2⟩, by simp [intOf]; omega⟩
            · have hlow : isLow c = false := by simp [isLow]; omega
              have e : casAt bits k0 u.data.toList (m + 1) = casAt bits k0 u.data.toList m := HS.out (by simp [casB, hlow])
              have hm1 : k0 + cnt (u.data.toList.take (m + 1)) = z := by rw [HC.out, hlow, ← HM.out]; simp
              have HE := Hid.mk e
              have HM1 := Hid.mk hm1
              clear e hm1 hlow
              go_wp2
              go_roundw
              case rel => exact ⟨m + 1, by omega, by go_num, by rw [HM1.out], by rw [HE.out]; exact hby, hbl2⟩
              case measure => simp [intOf]; omega
          · have hlow : isLow c = false := by simp [isLow]; omega
            have e : casAt bits k0 u.data.toList (m + 1) = casAt bits k0 u.data.toList m := HS.out (by simp [casB, hlow])
            have hm1 : k0 + cnt (u.data.toList.take (m + 1)) = z := by rw [HC.out, hlow, ← HM.out]; simp
            have HE := Hid.mk e
            have HM1 := Hid.mk hm1
            clear e hm1 hlow
            go_wp2
            go_roundw
            case rel => exact ⟨m + 1, by omega, by go_num, by rw [HM1.out], by rw [HE.out]; exact hby, hbl2⟩
            case measure => simp [intOf]; omega
        · have hfin : casAt bits k0 u.data.toList m = casGo bits k0 u.data.toList := casAt_all _ _ _ _ (by rw [size_list]; omega)
          have htk : u.data.toList.take m = u.data.toList := List.take_of_length_le (by rw [size_list]; omega)
          rw [hfin] at hby
          rw [htk]
          have hcv := run_convert_bytes_back (P := Try.prog) wr 56 9 5 ⟨w2.heap.size, 0, none⟩ (grownCap w2 u.size 0 5) (casGo bits k0 u.data.toList) Try.underlying56 Try.underlying5 Try.underlying9 (fun j hj => by rw [add_at]; exact (hby j hj).1)
          rw [casGo_length, size_list] at hcv
          clear hfin hby htk
          have k2 : Below wo.heap.size wo wr := bthen hb2 hbl2
          have hrow2 : wr.ownsRow w1.heap.size 9 1 u9 k (strsV (casN bits 0 ((lowN ls).take k))) := row_below hrow k2
          go_wp2_with (at_builtin; refine wpList_append_own _ rfl _ _ 22 rfl w1.heap.size 9 i0 (.string ⟨#[]⟩) 1 16 Try.underlying22 hi hz0 hz1 hz2 rfl (by decide) _ _ _ rfl (hrow2.alloc _) ⟨wr.heap.size, 0, none⟩ 1 1 [.string ⟨(casGo bits k0 u.data.toList).toArray⟩] rfl rfl (cell_one_new _ _ _) (by simp [Value.oneCell']) (by unfold maxLen; omega) (by omega) (by simp; have := k2.size; omega) ?_; intro v3 w3 hown3 hgrow3 _)
          go_roundw
          case rel =>
            refine ⟨k + 1, by omega, by go_num, ?_, ?_, ?_⟩
            · rw [HTk.out, List.flatten_append, cnt_append, HK0.out]; simp
            · rw [HTk.out, casN_snoc, HK0.out, Nat.zero_add, strsV, List.map_append]; exact hown3
            · exact (bthen hbl k2 |>.alloc (by have := k2.size; omega) _).grown hgrow3 (by simp; have := k2.size; omega) (rowBase hrow2)
          case measure => simp [intOf]; omega
    · have hall : (lowN ls).take k = lowN ls := List.take_of_length_le (by omega)
      rw [hall] at hrow
      have hkl : k = (casN bits 0 (lowN ls)).length := by rw [casN_length]; omega
      have hstr : Strs wo.heap.size wo u9 (casN bits 0 (lowN ls)) := strs_of_row (n := w1.heap.size) (by rw [← hkl]; exact hrow)
      clear hall hrow hkl hv
      go_wp2_with fail
      refine (HOf.out _ _ hstr).mono ?_
      rintro e w7 ⟨rfl, hb7⟩
      clear hstr
      dsimp only [resV]
      go_wp2
      go_ret2
      exact ⟨rfl, bthen hb1 (bthen hbl hb7)⟩

end Go.Proofs.Ytpngjmeinlcggaa
