/- DigestSize's walk. -/
import Derived.Test.YtanehlgifeckaaaDoorGUp
namespace Go.Proofs.YtanehlgifeckaaaDoor
set_option linter.unusedVariables false
open Go.RowKit
set_option maxRecDepth 100000 in
set_option maxHeartbeats 4000000 in
theorem size_walk (s : ByteArray) (hs : s.size ≤ 1048576) (W : World) (hG : Rk W) : Calls Tryd.prog 4 #[.string s] W fun e w' => e = .returned (.bool true) ∧ Below W.heap.size W w' := by
  have HG := Hid.mk hG
  have HE := Hid.mk (examples_in W hG)
  obtain ⟨p4, hp4, hl4⟩ := spl_len 4 (.inl rfl) s.data.toList
  obtain ⟨p5, hp5, hl5⟩ := spl_len 5 (.inr rfl) s.data.toList
  rw [size_list] at hl4 hl5
  obtain ⟨xl, hxl⟩ : ∃ xl, xl = spl 4 s.data.toList := ⟨_, rfl⟩
  obtain ⟨yl, hyl⟩ : ∃ yl, yl = spl 5 s.data.toList := ⟨_, rfl⟩
  obtain ⟨X, hX⟩ : ∃ X : ByteArray, X = ⟨xl.toArray⟩ := ⟨_, rfl⟩
  obtain ⟨Y, hY⟩ : ∃ Y : ByteArray, Y = ⟨yl.toArray⟩ := ⟨_, rfl⟩
  obtain ⟨n1, hn1⟩ : ∃ n1, X.size = n1 := ⟨_, rfl⟩
  obtain ⟨n2, hn2⟩ : ∃ n2, Y.size = n2 := ⟨_, rfl⟩
  have HX1 : Hid (xl.length = n1) := by rw [Hid, ← hn1, hX, ba_size]
  have HY1 : Hid (yl.length = n2) := by rw [Hid, ← hn2, hY, ba_size]
  have hb1 : n1 ≤ 2097152 := by have := HX1.out; rw [hxl] at this; omega
  have hb2 : n2 ≤ 2097152 := by have := HY1.out; rw [hyl] at this; omega
  have A1 : Hid (∀ W : World, Calls Tryd.prog 7 #[.string s] W fun e w' => e = .returned (.string X) ∧ Below W.heap.size W w') := fun W => by rw [hX, hxl]; exact hex_in s hs W
  have A2 : Hid (∀ W : World, Calls Tryd.prog 9 #[.string s] W fun e w' => e = .returned (.string Y) ∧ Below W.heap.size W w') := fun W => by rw [hY, hyl]; exact b32_in s hs W
  have hss : (⟨s.data.toList.toArray⟩ : ByteArray) = s := ba_ext rfl
  obtain ⟨X2, hX2⟩ : ∃ X2 : ByteArray, X2 = ⟨(xl.map upc).toArray⟩ := ⟨_, rfl⟩
  obtain ⟨Y2, hY2⟩ : ∃ Y2 : ByteArray, Y2 = ⟨(yl.map upc).toArray⟩ := ⟨_, rfl⟩
  have A3 : Hid (∀ W : World, Calls Tryd.prog 6 #[.string X2] W fun e w' => e = .returned (.tuple #[.string s, .int .i64 0]) ∧ Below W.heap.size W w') := fun W => by
    have h := unhex_yes X2 (by rw [hX2, ba_size, List.length_map, HX1.out]; omega) s.data.toList (by rw [hX2, hxl]; exact uns_up 4 (.inl rfl) s.data.toList) W
    rwa [hss] at h
  have A4 : Hid (∀ W : World, Calls Tryd.prog 8 #[.string Y2] W fun e w' => e = .returned (.tuple #[.string s, .int .i64 0]) ∧ Below W.heap.size W w') := fun W => by
    have h := unb32_yes Y2 (by rw [hY2, ba_size, List.length_map, HY1.out]; omega) s.data.toList (by rw [hY2, hyl]; exact uns_up 5 (.inr rfl) s.data.toList) W
    rwa [hss] at h
  obtain ⟨S1, hS1, A5⟩ : ∃ S1 : ByteArray, S1.size = 20 ∧ Hid (∀ W : World, Calls Tryd.prog 10 #[.string s] W fun e w' => e = .returned (.string S1) ∧ Below W.heap.size W w') := ⟨⟨(sha1 s.data.toList).toArray⟩, rfl, fun W => sum1_in s (by omega) W⟩
  obtain ⟨S2, hS2, A6⟩ : ∃ S2 : ByteArray, S2.size = 32 ∧ Hid (∀ W : World, Rk W → Calls Tryd.prog 11 #[.string s] W fun e w' => e = .returned (.string S2) ∧ Below W.heap.size W w') := ⟨⟨(sha2 s.data.toList).toArray⟩, rfl, fun W hk => sum2_in s (by omega) W hk⟩
  have hcx := conv_bytes X
  have hcy := conv_bytes Y
  rw [hn1] at hcx
  rw [hn2] at hcy
  have HXL : Hid (X.data.toList = xl) := by rw [Hid, hX]
  have HYL : Hid (Y.data.toList = yl) := by rw [Hid, hY]
  have HX2 := Hid.mk hX2
  have HY2 := Hid.mk hY2
  clear hX hY hl4 hl5 hp4 hp5 hss hs hG hxl hyl hn1 hn2 hX2 hY2
  go_enter Tryd.func4, Tryd.ntmps4
  go_wp2_with fail
  refine HE.out.mono ?_
  rintro e w1 ⟨rfl, hb1'⟩
  go_wp2_with fail
  refine (A1.out _).mono ?_
  rintro e w2 ⟨rfl, hb2'⟩
  have k2 := bthen hb1' hb2'
  go_wp2_with fail
  refine (A2.out _).mono ?_
  rintro e w3 ⟨rfl, hb3'⟩
  have k3 : Below W.heap.size W w3 := bthen (bthen k2 (conv_below X w2)) hb3'
  have E1 : Hid (Crow w3 w2.heap.size xl) := by
    have h := (Crow.new w2 X).below hb3'
    rwa [HXL.out] at h
  go_wp2_with fail
  have k4 : Below W.heap.size W (Lib.bytesWorld w3 5 Y) := bthen k3 (conv_below Y w3)
  have C1 : Hid (Crow (Lib.bytesWorld w3 5 Y) w2.heap.size xl) := E1.out.below (conv_below Y w3)
  have C2 : Hid (Crow (Lib.bytesWorld w3 5 Y) w3.heap.size yl) := by
    have h := Crow.new w3 Y
    rwa [HYL.out] at h
  have hg12 : w2.heap.size < w3.heap.size := E1.out.lt
  have hgw : W.heap.size ≤ w2.heap.size := k2.size
  clear hcx hcy E1 k3 k2 hb1' hb2' hb3' HXL HYL
  generalize Lib.bytesWorld w3 5 Y = V at k4 C1 C2 ⊢
  generalize grownCap w2 n1 0 5 = cap1
  generalize grownCap w3 n2 0 5 = cap2
  generalize w2.heap.size = g1 at hg12 hgw C1 ⊢
  generalize w3.heap.size = g2 at hg12 C2 ⊢
  go_loopw [6] (fun i wr => ∃ m : Nat, m ≤ n1 ∧ i = .int .i64 m ∧ Crow wr g1 (ups xl m) ∧ Crow wr g2 yl ∧ Below W.heap.size W wr) (fun i _ => n1 - (intOf i).toNat)
  case atStart => exact ⟨0, by omega, rfl, C1.out, C2.out, k4⟩
  case round =>
    obtain ⟨m, hm, rfl, hc1, hc2, hbl⟩ := hrel
    have HC1 := Hid.mk hc1
    have HC2 := Hid.mk hc2
    by_cases hlt : m < n1
    · have hml : m < xl.length := by rw [HX1.out]; exact hlt
      have hul : m < (ups xl m).length := by rw [ups_len _ _ (by omega)]; exact hml
      have hc := hc1.cell m hul
      have hf := hc1.free m hul
      rw [ups_at _ _ hml] at hc
      have HUS := Hid.mk (ups_set xl m hml)
      have HSM := Hid.mk (ups_same xl m hml)
      have HNT := Hid.mk (upc_nat (xl[m]?.getD 0))
      have HUD : Hid (¬ 97 ≤ (xl[m]?.getD 0).toNat → upc (xl[m]?.getD 0) = xl[m]?.getD 0) := fun h => if_neg h
      generalize xl[m]?.getD 0 = x at hc HUS HSM HNT HUD
      have hx8 := x.toNat_lt
      clear hc1 hc2 hml hul
      by_cases h97 : 97 ≤ x.toNat
      · have hnt := HNT.out
        rw [if_pos h97] at hnt
        have HN2 := Hid.mk hnt
        clear hnt
        go_wp2
        go_roundw
        case rel =>
          have h1 := HC1.out.put m (upc x)
          rw [HUS.out, HN2.out] at h1
          exact ⟨m + 1, by omega, by go_num, h1, HC2.out.other (show g2 ≠ g1 by omega), hbl.setCell (p := ⟨g1, m, none⟩) (by show W.heap.size ≤ g1; omega) _⟩
        case measure => simp [intOf]; omega
      · have HS2 := Hid.mk (HSM.out (HUD.out h97))
        have h97' : (x.toNat : Int) < 97 := by omega
        go_wp2
        go_roundw
        case rel => exact ⟨m + 1, by omega, by go_num, by rw [HS2.out]; exact HC1.out, HC2.out, hbl⟩
        case measure => simp [intOf]; omega
    · obtain rfl : n1 = m := by omega
      rw [ups_all _ _ HX1.out] at hc1
      have D1 := Hid.mk hc1
      have D2 := HC2
      have hbl0 := hbl
      clear hc1 hc2 HC1 HC2 hbl C1 C2 k4 hlt
      go_wp2_with fail
      go_loopw [7] (fun i wr => ∃ m : Nat, m ≤ n2 ∧ i = .int .i64 m ∧ Crow wr g2 (ups yl m) ∧ Crow wr g1 (xl.map upc) ∧ Below W.heap.size W wr) (fun i _ => n2 - (intOf i).toNat)
      case atStart => exact ⟨0, by omega, rfl, D2.out, D1.out, hbl0⟩
      case round =>
        obtain ⟨m, hm, rfl, hc1, hc2, hbl⟩ := hrel
        have HC1 := Hid.mk hc1
        have HC2 := Hid.mk hc2
        by_cases hlt : m < n2
        · have hml : m < yl.length := by rw [HY1.out]; exact hlt
          have hul : m < (ups yl m).length := by rw [ups_len _ _ (by omega)]; exact hml
          have hc := hc1.cell m hul
          have hf := hc1.free m hul
          rw [ups_at _ _ hml] at hc
          have HUS := Hid.mk (ups_set yl m hml)
          have HSM := Hid.mk (ups_same yl m hml)
          have HNT := Hid.mk (upc_nat (yl[m]?.getD 0))
          have HUD : Hid (¬ 97 ≤ (yl[m]?.getD 0).toNat → upc (yl[m]?.getD 0) = yl[m]?.getD 0) := fun h => if_neg h
          generalize yl[m]?.getD 0 = x at hc HUS HSM HNT HUD
          have hx8 := x.toNat_lt
          clear hc1 hc2 hml hul
          by_cases h97 : 97 ≤ x.toNat
          · have hnt := HNT.out
            rw [if_pos h97] at hnt
            have HN2 := Hid.mk hnt
            clear hnt
            go_wp2
            go_roundw
            case rel =>
              have h1 := HC1.out.put m (upc x)
              rw [HUS.out, HN2.out] at h1
              exact ⟨m + 1, by omega, by go_num, h1, HC2.out.other (show g1 ≠ g2 by omega), hbl.setCell (p := ⟨g2, m, none⟩) (by show W.heap.size ≤ g2; omega) _⟩
            case measure => simp [intOf]; omega
          · have HS2 := Hid.mk (HSM.out (HUD.out h97))
            have h97' : (x.toNat : Int) < 97 := by omega
            go_wp2
            go_roundw
            case rel => exact ⟨m + 1, by omega, by go_num, by rw [HS2.out]; exact HC1.out, HC2.out, hbl⟩
            case measure => simp [intOf]; omega
        · obtain rfl : n2 = m := by omega
          rw [ups_all _ _ HY1.out] at hc1
          have U2 := Hid.mk hc1
          have U1 := HC2
          clear hc1 hc2 HC1 HC2 D1 D2 hbl0
          have hv1 := U1.out.back (cap := cap1) (n := n1) (by rw [List.length_map]; exact HX1.out)
          rw [← HX2.out] at hv1
          go_wp2_with fail
          refine (A3.out _).mono ?_
          rintro e w5 ⟨rfl, hb5⟩
          have U3 : Hid (Crow w5 g2 (yl.map upc)) := U2.out.below hb5
          have hv2 := U3.out.back (cap := cap2) (n := n2) (by rw [List.length_map]; exact HY1.out)
          rw [← HY2.out] at hv2
          have k5 : Below W.heap.size W w5 := bthen hbl hb5
          clear hv1
          go_wp2_with fail
          refine (A4.out _).mono ?_
          rintro e w6 ⟨rfl, hb6⟩
          have k6 := bthen k5 hb6
          clear hv2
          go_wp2_with fail
          refine (A5.out _).mono ?_
          rintro e w7 ⟨rfl, hb7⟩
          have k7 := bthen k6 hb7
          go_wp2_with fail
          refine (A6.out _ (HG.out.below k7)).mono ?_
          rintro e w8 ⟨rfl, hb8⟩
          have k8 := bthen k7 hb8
          go_wp2
          go_ret
          exact ⟨rfl, k8⟩
end Go.Proofs.YtanehlgifeckaaaDoor
