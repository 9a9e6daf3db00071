/- The document's own small and Lower (guidepostref01). -/
import Derived.Deep.RegionWith
import Derived.Test.YtpngjmeinlcggaaRefOf
import Derived.Test.YtpngjmeinlcggaaCased
namespace Go.Proofs.Ytpngjmeinlcggaa
set_option linter.unusedVariables false
open Go.RowKit

set_option maxHeartbeats 1000000 in
theorem small_in (s : ByteArray) (hz : s.size ≤ 255) (w : World) :
    Calls Try.prog 45 #[.string s] w fun e w' => e = .returned (.string ⟨(s.data.toList.map lowB).toArray⟩) ∧ Below w.heap.size w w' := by
  have hcv := fun W : World => Lib.run_convert_string_bytes (P := Try.prog) W 9 56 5 s Try.underlying9 Try.underlying56 Try.underlying5
  go_enter Try.func45, Try.ntmps45
  go_wp2
  clear hcv
  have hby0 := bytesWorld_bytes w s
  have hbe0 := below_bytes w s
  go_loopw [4] (fun i wr => ∃ k : Nat, k ≤ s.size ∧ i = .int .i64 k ∧ BytesAt wr w.heap.size (lowTo s.data.toList k) ∧ Below w.heap.size w wr) (fun i _ => s.size - (intOf i).toNat)
  case atStart => exact ⟨0, Nat.zero_le _, rfl, by rw [lowTo_zero]; exact hby0, hbe0⟩
  case round =>
    clear hby0 hbe0
    obtain ⟨k, hk, rfl, hby, hbl⟩ := hrel
    by_cases hlt : k < s.size
    · have hlt' : k < s.data.toList.length := by rw [size_list]; exact hlt
      have hj := hby k (by rw [lowTo_length]; exact hlt')
      rw [lowTo_get _ _ hlt'] at hj
      obtain ⟨hc, hf⟩ := hj
      have hn := (hby.set k (lowB s.data.toList[k]))
      rw [lowTo_succ _ _ hlt'] at hn
      have hsame : lowB s.data.toList[k] = s.data.toList[k] → lowTo s.data.toList (k + 1) = lowTo s.data.toList k := by
        intro e
        rw [← lowTo_succ _ _ hlt', e]
        have := lowTo_get s.data.toList k hlt'
        conv => lhs; rw [← this]
        exact List.set_getElem_self _
      have HN := Hid.mk hn
      have HS := Hid.mk hsame
      clear hn hsame
      generalize s.data.toList[k] = c at hc HN HS
      have hc8 := c.toNat_lt
      by_cases h1 : 65 ≤ c.toNat
      · by_cases h2 : c.toNat ≤ 90
        · have hcb : ((lowB c).toNat : Int) = (c.toNat : Int) + 32 := by rw [lowB_toNat, if_pos ⟨h1, h2⟩]; omega
          have HN1 := HN.out
          rw [hcb] at HN1
          have HN2 := Hid.mk HN1
          clear HN1 hcb
          go_wp2
          go_roundw
          case rel => exact ⟨k + 1, by omega, by go_num, HN2.out, hbl.setCell (p := ⟨w.heap.size, k, none⟩) (Nat.le_refl _) _⟩
          case measure => simp [intOf]; omega
        · have e : lowB c = c := by unfold lowB; rw [if_neg (by omega)]
          have HE := Hid.mk (HS.out e)
          clear e
          go_wp2
          go_roundw
          case rel => exact ⟨k + 1, by omega, by go_num, by rw [HE.out]; exact hby, hbl⟩
          case measure => simp [intOf]; omega
      · have e : lowB c = c := by unfold lowB; rw [if_neg (by omega)]
        have HE := Hid.mk (HS.out e)
        clear e
        go_wp2
        go_roundw
        case rel => exact ⟨k + 1, by omega, by go_num, by rw [HE.out]; exact hby, hbl⟩
        case measure => simp [intOf]; omega
    · have hfin : lowTo s.data.toList k = s.data.toList.map lowB := lowTo_all _ _ (by rw [size_list]; omega)
      rw [hfin] at hby
      have hcv := run_convert_bytes_back (P := Try.prog) wr 56 9 5 ⟨w.heap.size, 0, none⟩ (grownCap w s.size 0 5) (s.data.toList.map lowB) Try.underlying56 Try.underlying5 Try.underlying9 (fun j hj => by rw [add_at]; exact (hby j hj).1)
      rw [List.length_map, size_list] at hcv
      clear hfin hby
      go_wp2
      go_ret
      exact ⟨rfl, hbl⟩

theorem rLower_no (s : ByteArray) (hm : s.size ≤ maxLen) (hn : ¬ IsName s) (w : World) :
    Calls Try.prog 17 #[.string s] w fun e w' => e = .returned (.string s) ∧ Below w.heap.size w w' := by
  go_enter Try.func17, Try.ntmps17
  go_wp2_with fail
  refine (rLabels_none s hm hn _).mono ?_
  rintro e w1 ⟨rfl, hb1⟩
  go_wp2
  go_ret
  exact ⟨rfl, hb1⟩

theorem flat_low_le (ls : List (List UInt8)) (k : Nat) : (flat (lowN (ls.take k))).length ≤ (flat ls).length := by
  rw [flat_low_length]
  have : flat ls = flat (ls.take k) ++ flat (ls.drop k) := by rw [← flat_append, List.take_append_drop]
  rw [this, List.length_append]; omega

set_option maxRecDepth 100000 in
set_option maxHeartbeats 4000000 in
theorem rLower_yes (ls : List (List UInt8)) (ho : OkN ls) (w : World) :
    Calls Try.prog 17 #[.string (nm ls)] w fun e w' => e = .returned (.string (nm (lowN ls))) ∧ Below w.heap.size w w' := by
  have hlen := ho.len
  have hcnt := ho.count
  have hmo : Try.prog.follows Departure.mixedOrders = true := by kernel_rfl
  go_enter Try.func17, Try.ntmps17
  go_wp2_with fail
  refine (rLabels_yes ls ho _).mono ?_
  rintro e w1 ⟨⟨v, rfl, hv⟩, hb1⟩
  obtain ⟨q, cp, hq⟩ := hv.form
  subst hq
  go_wp2
  go_loopw [5, 6] (fun sv i wr => ∃ (k : Nat) (s : ByteArray), k ≤ ls.length ∧ i = .int .i64 k ∧ sv = .string s ∧ Hid (s.data.toList = flat (lowN (ls.take k))) ∧ s.size ≤ 254 ∧ Below w1.heap.size w1 wr) (fun _ i _ => ls.length - (intOf i).toNat)
  case atStart => exact ⟨0, ⟨#[]⟩, Nat.zero_le _, rfl, rfl, rfl, by decide, Below.refl _ _⟩
  case round =>
    obtain ⟨k, s, hk, rfl, rfl, hfl, hsz, hbl⟩ := hrel
    by_cases hlt : k < ls.length
    · obtain ⟨g, hg, hgq, hcl⟩ : ∃ g, q = some ⟨g, 0, none⟩ ∧ g < w1.heap.size ∧ w1.cell? ⟨g, k, none⟩ = some (strV ls[k]) := by
        rcases hv with ⟨_, h⟩ | ⟨g, cap, hv, hg, hc⟩
        · rw [h] at hlt; simp at hlt
        · cases hv; exact ⟨g, rfl, hg, hc k hlt⟩
      subst hg
      obtain ⟨t, ht1, ht2, ht3⟩ := toBA ls[k]
      have hgd := ho.lab _ (List.getElem_mem hlt)
      have hcx : wr.cell? ⟨g, k, none⟩ = some (.string t) := by rw [← ht1]; exact (hbl.cell (p := ⟨g, k, none⟩) hgq).trans hcl
      have h1 : 1 ≤ t.size := by rw [ht3]; exact hgd.1
      have h2 : t.size ≤ 63 := by rw [ht3]; exact hgd.2
      have hgw : g < wr.heap.size := Nat.lt_of_lt_of_le hgq hbl.size
      have hcv : ∀ (g' : Nat) (W : World), W.cell? ⟨g', 0, none⟩ = some (.int .u8 (t.size : Int)) → (convert 56 9 (.slice (some ⟨g', 0, none⟩) 1 1)).run Try.prog W = .ok (.string ⟨#[UInt8.ofNat t.size]⟩) W := fun g' W hW => by
        have := run_convert_bytes_back (P := Try.prog) W 56 9 5 ⟨g', 0, none⟩ 1 [UInt8.ofNat t.size] Try.underlying56 Try.underlying5 Try.underlying9 (fun j hj => by
          have e : j = 0 := by simpa using hj
          subst e
          rw [add_at, hW]
          simp; omega)
        simpa using this
      obtain ⟨u, hu⟩ : ∃ u : ByteArray, (⟨(t.data.toList.map lowB).toArray⟩ : ByteArray) = u := ⟨_, rfl⟩
      have hus : u.size = t.size := by rw [← hu, ba_size, List.length_map, size_list]
      have hSm := small_in t (by omega)
      rw [hu] at hSm
      have HSm := Hid.mk hSm
      have HT : Hid (flat (lowN (ls.take (k + 1))) = flat (lowN (ls.take k)) ++ (UInt8.ofNat t.size :: u.data.toList)) := by
        rw [Hid, List.take_succ_eq_append_getElem hlt]
        have : lowN (ls.take k ++ [ls[k]]) = lowN (ls.take k) ++ [ls[k].map lowB] := lowN_append _ _
        rw [this, flat_snoc, List.length_map, ← ht2, size_list, ← hu]
      have hcz : (s ++ ⟨#[UInt8.ofNat t.size]⟩ ++ u).size = s.size + 1 + u.size := by
        rw [ByteArray.size_append, ByteArray.size_append]; rfl
      have hle2 : s.size + 1 + u.size ≤ 254 := by
        have h5 := flat_low_le ls (k + 1)
        rw [HT.out, List.length_append, List.length_cons, ← hfl.out, size_list, size_list] at h5
        omega
      have HCZ := Hid.mk hcz
      have hu63 : u.size ≤ 63 := by omega
      have hw8 : IntKind.u8.wrap (t.size : Int) = (t.size : Int) := by rw [IntKind.wrap_u8]; omega
      clear ht1 ht2 ht3 hcz hu hSm hv hcl hus hgd
      go_wp2
      have hlow : ∀ W W' : World, Below wr.heap.size wr W → Below W.heap.size W W' → Below wr.heap.size wr W' ∧ W'.cell? ⟨g, k, none⟩ = some (.string t) := by
        intro W W' h1 h2
        have h3 : Below wr.heap.size wr W' := h1.trans (h2.mono h1.size)
        exact ⟨h3, (h3.cell (p := ⟨g, k, none⟩) hgw).trans hcx⟩
      have hlow2 : ∀ W' : World, Below ((wr.alloc (.cells #[.int .u8 (t.size : Int)] 5)).drew).heap.size ((wr.alloc (.cells #[.int .u8 (t.size : Int)] 5)).drew) W' → Below wr.heap.size wr W' ∧ W'.cell? ⟨g, k, none⟩ = some (.string t) ∧ W'.cell? ⟨wr.heap.size, 0, none⟩ = some (.int .u8 (t.size : Int)) := by
        intro W' h2
        obtain ⟨h3, h4⟩ := hlow _ W' (((Below.refl _ wr).alloc (Nat.le_refl _) _).drew) h2
        exact ⟨h3, h4, (h2.cell (p := ⟨wr.heap.size, 0, none⟩) (by show wr.heap.size < (wr.heap.push _).size; simp)).trans (Boxed.new wr 5 _).cell⟩
      have HL2 : Hid (∀ (G : Prop) (W' : World), Below ((wr.alloc (.cells #[.int .u8 (t.size : Int)] 5)).drew).heap.size ((wr.alloc (.cells #[.int .u8 (t.size : Int)] 5)).drew) W' → (Below wr.heap.size wr W' → W'.cell? ⟨g, k, none⟩ = some (.string t) → W'.cell? ⟨wr.heap.size, 0, none⟩ = some (.int .u8 (t.size : Int)) → G) → G) :=
        fun G W' h hG => hG (hlow2 W' h).1 (hlow2 W' h).2.1 (hlow2 W' h).2.2
      have HL1 : Hid (∀ (G : Prop) (W' : World), Below wr.drew.heap.size wr.drew W' → (Below wr.heap.size wr W' → W'.cell? ⟨g, k, none⟩ = some (.string t) → wr.heap.size ≤ W'.heap.size → G) → G) :=
        fun G W' h hG => hG (hlow _ W' ((Below.refl _ wr).drew) h).1 (hlow _ W' ((Below.refl _ wr).drew) h).2 h.size
      clear hlow hlow2
      go_region_with (go_at_call 45; refine (HSm.out _).mono ?_; rintro e w3 ⟨rfl, hb3⟩; (first | refine HL2.out _ w3 hb3 ?_ | refine HL1.out _ w3 hb3 ?_); intro hB3 hcx3 hcn3; clear hb3)
      all_goals go_wp2
      all_goals
        refine ⟨⟨k + 1, s ++ ⟨#[UInt8.ofNat t.size]⟩ ++ u, by omega, by go_num, rfl, ?_, ?_, ?_⟩, by simp [intOf]; omega⟩
        · rw [Hid, HT.out, ← hfl.out, ByteArray.data_append, ByteArray.data_append, Array.toList_append, Array.toList_append, List.append_assoc]; rfl
        · rw [HCZ.out]; exact hle2
        · have hZ := hbl.trans (hB3.mono hbl.size)
          first | exact hZ | exact hZ.alloc hZ.size _ | exact (hZ.alloc hZ.size _).drew | exact hZ.drew | exact hZ.drew.alloc hZ.size _
    · have hall : ls.take k = ls := List.take_of_length_le (by omega)
      have hR : s ++ (⟨#[0]⟩ : ByteArray) = nm (lowN ls) := by
        have hf := hfl.out
        rw [hall] at hf
        apply ba_ext
        rw [ByteArray.data_append, Array.toList_append, hf]; rfl
      have HR := Hid.mk hR
      clear hR hall hv
      go_wp2
      go_ret
      exact ⟨by rw [← HR.out]; rfl, bthen hb1 hbl⟩

theorem rEqual_yes (a b : List (List UInt8)) (ha : OkN a) (hb : OkN b) (w : World) :
    Calls Try.prog 22 #[.string (nm a), .string (nm b)] w fun e w' => e = .returned (.bool (eqB a b)) ∧ Below w.heap.size w w' := by
  go_enter Try.func22, Try.ntmps22
  go_wp2_with fail
  refine (rRight_yes a ha _).mono ?_
  rintro e w1 ⟨rfl, hb1⟩
  go_wp2_with fail
  refine (rRight_yes b hb _).mono ?_
  rintro e w2 ⟨rfl, hb2⟩
  go_wp2_with fail
  refine (rLower_yes a ha _).mono ?_
  rintro e w3 ⟨rfl, hb3⟩
  go_wp2_with fail
  refine (rLower_yes b hb _).mono ?_
  rintro e w4 ⟨rfl, hb4⟩
  go_wp2
  go_ret
  refine ⟨?_, bthen hb1 (bthen hb2 (bthen hb3 hb4))⟩
  show Ending.returned (.bool ((nm (lowN a)).toList == (nm (lowN b)).toList)) = _
  congr 2
  rw [eqB, Bool.eq_iff_iff, beq_iff_eq, decide_eq_true_iff, ByteArray.toList_eq, ByteArray.toList_eq]
  exact ⟨fun h => nm_inj ha.low hb.low (ba_ext h), fun h => by rw [h]⟩

theorem rEqual_no (s t : ByteArray) (hs : s.size ≤ maxLen) (ht : t.size ≤ maxLen) (h : ¬ (IsName s ∧ IsName t)) (w : World) :
    Calls Try.prog 22 #[.string s, .string t] w fun e w' => e = .returned (.bool false) ∧ Below w.heap.size w w' := by
  by_cases h1 : IsName s
  · have h2 : ¬ IsName t := fun h2 => h ⟨h1, h2⟩
    obtain ⟨a, ha, rfl⟩ := h1
    go_enter Try.func22, Try.ntmps22
    go_wp2_with fail
    refine (rRight_yes a ha _).mono ?_
    rintro e w1 ⟨rfl, hb1⟩
    go_wp2_with fail
    refine (rRight_no t ht h2 _).mono ?_
    rintro e w2 ⟨rfl, hb2⟩
    go_wp2
    go_ret
    exact ⟨rfl, bthen hb1 hb2⟩
  · by_cases h2 : IsName t
    · obtain ⟨b, hb, rfl⟩ := h2
      go_enter Try.func22, Try.ntmps22
      go_wp2_with fail
      refine (rRight_no s hs h1 _).mono ?_
      rintro e w1 ⟨rfl, hb1⟩
      go_wp2_with fail
      refine (rRight_yes b hb _).mono ?_
      rintro e w2 ⟨rfl, hb2⟩
      go_wp2
      go_ret
      exact ⟨rfl, bthen hb1 hb2⟩
    · go_enter Try.func22, Try.ntmps22
      go_wp2_with fail
      refine (rRight_no s hs h1 _).mono ?_
      rintro e w1 ⟨rfl, hb1⟩
      go_wp2_with fail
      refine (rRight_no t ht h2 _).mono ?_
      rintro e w2 ⟨rfl, hb2⟩
      go_wp2
      go_ret
      exact ⟨rfl, bthen hb1 hb2⟩

end Go.Proofs.Ytpngjmeinlcggaa
