/- Texts of this proof, joined: RefLower, KRefTag, KTagsW. -/
import Derived.Deep.RegionWith
import Derived.Test.YtlcjagkfeakinaaGreatDoorJ17
import Derived.Test.YtlcjagkfeakinaaGreatDoorJ7
import Derived.Test.YtlcjagkfeakinaaGreatDoorJ13
import Derived.Test.YtlcjagkfeakinaaGreatDoorJ15
import Derived.Test.YtlcjagkfeakinaaGreatDoorJ12
/- The document's own small and Lower (guidepostref01). -/
namespace Go.Proofs.YtlcjagkfeakinaaGreatDoor
set_option linter.unusedVariables false
set_option maxRecDepth 100000
open Go.RowKit

set_option maxHeartbeats 1000000 in
theorem small_in (s : ByteArray) (hz : s.size ≤ 255) (w : World) :
    Calls Tryz.prog 70 #[.string s] w fun e w' => e = .returned (.string ⟨(s.data.toList.map lowB).toArray⟩) ∧ Below w.heap.size w w' := by
  have hcv := fun W : World => Lib.run_convert_string_bytes (P := Tryz.prog) W 9 55 5 s Tryz.underlying9 Tryz.underlying55 Tryz.underlying5
  go_enter Tryz.func70, Tryz.ntmps70
  go_wp2
  clear hcv
  have hby0 := bytesWorld_bytes w s
  have hbe0 := below_bytes w s
  go_loopw [4] (fun i wr => ∃ k : Nat, k ≤ s.size ∧ i = .int .i64 k ∧ BytesAt wr w.heap.size (lowTo s.data.toList k) ∧ Below w.heap.size w wr) (fun i _ => s.size - (intOf i).toNat)
  case atStart => exact ⟨0, Nat.zero_le _, rfl, by rw [lowTo_zero]; exact hby0, hbe0⟩
  case round =>
    clear hby0 hbe0
    obtain ⟨k, hk, rfl, hby, hbl⟩ := hrel
    by_cases hlt : k < s.size
    · have hlt' : k < s.data.toList.length := by rw [size_list]; exact hlt
      have hj := hby k (by rw [lowTo_length]; exact hlt')
      rw [lowTo_get _ _ hlt'] at hj
      obtain ⟨hc, hf⟩ := hj
      have hn := (hby.set k (lowB s.data.toList[k]))
      rw [lowTo_succ _ _ hlt'] at hn
      have hsame : lowB s.data.toList[k] = s.data.toList[k] → lowTo s.data.toList (k + 1) = lowTo s.data.toList k := by
        intro e
        rw [← lowTo_succ _ _ hlt', e]
        have := lowTo_get s.data.toList k hlt'
        conv => lhs; rw [← this]
        exact List.set_getElem_self _
      have HN := Hid.mk hn
      have HS := Hid.mk hsame
      clear hn hsame
      generalize s.data.toList[k] = c at hc HN HS
      have hc8 := c.toNat_lt
      by_cases h1 : 65 ≤ c.toNat
      · by_cases h2 : c.toNat ≤ 90
        · have hcb : ((lowB c).toNat : Int) = (c.toNat : Int) + 32 := by rw [lowB_toNat, if_pos ⟨h1, h2⟩]; omega
          have HN1 := HN.out
          rw [hcb] at HN1
          have HN2 := Hid.mk HN1
          clear HN1 hcb
          go_wp2
          go_roundw
          case rel => exact ⟨k + 1, by omega, by go_num, HN2.out, hbl.setCell (p := ⟨w.heap.size, k, none⟩) (Nat.le_refl _) _⟩
          case measure => simp [intOf]; omega
        · have e : lowB c = c := by unfold lowB; rw [if_neg (by omega)]
          have HE := Hid.mk (HS.out e)
          clear e
          go_wp2
          go_roundw
          case rel => exact ⟨k + 1, by omega, by go_num, by rw [HE.out]; exact hby, hbl⟩
          case measure => simp [intOf]; omega
      · have e : lowB c = c := by unfold lowB; rw [if_neg (by omega)]
        have HE := Hid.mk (HS.out e)
        clear e
        go_wp2
        go_roundw
        case rel => exact ⟨k + 1, by omega, by go_num, by rw [HE.out]; exact hby, hbl⟩
        case measure => simp [intOf]; omega
    · have hfin : lowTo s.data.toList k = s.data.toList.map lowB := lowTo_all _ _ (by rw [size_list]; omega)
      rw [hfin] at hby
      have hcv := run_convert_bytes_back (P := Tryz.prog) wr 55 9 5 ⟨w.heap.size, 0, none⟩ (grownCap w s.size 0 5) (s.data.toList.map lowB) Tryz.underlying55 Tryz.underlying5 Tryz.underlying9 (fun j hj => by rw [add_at]; exact (hby j hj).1)
      rw [List.length_map, size_list] at hcv
      clear hfin hby
      go_wp2
      go_ret
      exact ⟨rfl, hbl⟩

theorem rLower_no (s : ByteArray) (hm : s.size ≤ maxLen) (hn : ¬ IsName s) (w : World) :
    Calls Tryz.prog 37 #[.string s] w fun e w' => e = .returned (.string s) ∧ Below w.heap.size w w' := by
  go_enter Tryz.func37, Tryz.ntmps37
  go_wp2_with fail
  refine (rLabels_none s hm hn _).mono ?_
  rintro e w1 ⟨rfl, hb1⟩
  go_wp2
  go_ret
  exact ⟨rfl, hb1⟩

theorem flat_low_le (ls : List (List UInt8)) (k : Nat) : (flat (lowN (ls.take k))).length ≤ (flat ls).length := by
  rw [flat_low_length]
  have : flat ls = flat (ls.take k) ++ flat (ls.drop k) := by rw [← flat_append, List.take_append_drop]
  rw [this, List.length_append]; omega

set_option maxRecDepth 100000 in
set_option maxHeartbeats 4000000 in
theorem rLower_yes (ls : List (List UInt8)) (ho : OkN ls) (w : World) :
    Calls Tryz.prog 37 #[.string (nm ls)] w fun e w' => e = .returned (.string (nm (lowN ls))) ∧ Below w.heap.size w w' := by
  have hlen := ho.len
  have hcnt := ho.count
  have hmo : Tryz.prog.follows Departure.mixedOrders = true := by kernel_rfl
  go_enter Tryz.func37, Tryz.ntmps37
  go_wp2_with fail
  refine (rLabels_yes ls ho _).mono ?_
  rintro e w1 ⟨⟨v, rfl, hv⟩, hb1⟩
  obtain ⟨q, cp, hq⟩ := hv.form
  subst hq
  go_wp2
  go_loopw [5, 6] (fun sv i wr => ∃ (k : Nat) (s : ByteArray), k ≤ ls.length ∧ i = .int .i64 k ∧ sv = .string s ∧ Hid (s.data.toList = flat (lowN (ls.take k))) ∧ s.size ≤ 254 ∧ Below w1.heap.size w1 wr) (fun _ i _ => ls.length - (intOf i).toNat)
  case atStart => exact ⟨0, ⟨#[]⟩, Nat.zero_le _, rfl, rfl, rfl, by decide, Below.refl _ _⟩
  case round =>
    obtain ⟨k, s, hk, rfl, rfl, hfl, hsz, hbl⟩ := hrel
    by_cases hlt : k < ls.length
    · obtain ⟨g, hg, hgq, hcl⟩ : ∃ g, q = some ⟨g, 0, none⟩ ∧ g < w1.heap.size ∧ w1.cell? ⟨g, k, none⟩ = some (strV ls[k]) := by
        rcases hv with ⟨_, h⟩ | ⟨g, cap, hv, hg, hc⟩
        · rw [h] at hlt; simp at hlt
        · cases hv; exact ⟨g, rfl, hg, hc k hlt⟩
      subst hg
      obtain ⟨t, ht1, ht2, ht3⟩ := toBA ls[k]
      have hgd := ho.lab _ (List.getElem_mem hlt)
      have hcx : wr.cell? ⟨g, k, none⟩ = some (.string t) := by rw [← ht1]; exact (hbl.cell (p := ⟨g, k, none⟩) hgq).trans hcl
      have h1 : 1 ≤ t.size := by rw [ht3]; exact hgd.1
      have h2 : t.size ≤ 63 := by rw [ht3]; exact hgd.2
      have hgw : g < wr.heap.size := Nat.lt_of_lt_of_le hgq hbl.size
      have hcv : ∀ (g' : Nat) (W : World), W.cell? ⟨g', 0, none⟩ = some (.int .u8 (t.size : Int)) → (convert 55 9 (.slice (some ⟨g', 0, none⟩) 1 1)).run Tryz.prog W = .ok (.string ⟨#[UInt8.ofNat t.size]⟩) W := fun g' W hW => by
        have := run_convert_bytes_back (P := Tryz.prog) W 55 9 5 ⟨g', 0, none⟩ 1 [UInt8.ofNat t.size] Tryz.underlying55 Tryz.underlying5 Tryz.underlying9 (fun j hj => by
          have e : j = 0 := by simpa using hj
          subst e
          rw [add_at, hW]
          simp; omega)
        simpa using this
      obtain ⟨u, hu⟩ : ∃ u : ByteArray, (⟨(t.data.toList.map lowB).toArray⟩ : ByteArray) = u := ⟨_, rfl⟩
      have hus : u.size = t.size := by rw [← hu, ba_size, List.length_map, size_list]
      have hSm := small_in t (by omega)
      rw [hu] at hSm
      have HSm := Hid.mk hSm
      have HT : Hid (flat (lowN (ls.take (k + 1))) = flat (lowN (ls.take k)) ++ (UInt8.ofNat t.size :: u.data.toList)) := by
        rw [Hid, List.take_succ_eq_append_getElem hlt]
        have : lowN (ls.take k ++ [ls[k]]) = lowN (ls.take k) ++ [ls[k].map lowB] := lowN_append _ _
        rw [this, flat_snoc, List.length_map, ← ht2, size_list, ← hu]
      have hcz : (s ++ ⟨#[UInt8.ofNat t.size]⟩ ++ u).size = s.size + 1 + u.size := by
        rw [ByteArray.size_append, ByteArray.size_append]; rfl
      have hle2 : s.size + 1 + u.size ≤ 254 := by
        have h5 := flat_low_le ls (k + 1)
        rw [HT.out, List.length_append, List.length_cons, ← hfl.out, size_list, size_list] at h5
        omega
      have HCZ := Hid.mk hcz
      have hu63 : u.size ≤ 63 := by omega
      have hw8 : IntKind.u8.wrap (t.size : Int) = (t.size : Int) := by rw [IntKind.wrap_u8]; omega
      clear ht1 ht2 ht3 hcz hu hSm hv hcl hus hgd
      go_wp2
      have hlow : ∀ W W' : World, Below wr.heap.size wr W → Below W.heap.size W W' → Below wr.heap.size wr W' ∧ W'.cell? ⟨g, k, none⟩ = some (.string t) := by
        intro W W' h1 h2
        have h3 : Below wr.heap.size wr W' := h1.trans (h2.mono h1.size)
        exact ⟨h3, (h3.cell (p := ⟨g, k, none⟩) hgw).trans hcx⟩
      have hlow2 : ∀ W' : World, Below ((wr.alloc (.cells #[.int .u8 (t.size : Int)] 5)).drew).heap.size ((wr.alloc (.cells #[.int .u8 (t.size : Int)] 5)).drew) W' → Below wr.heap.size wr W' ∧ W'.cell? ⟨g, k, none⟩ = some (.string t) ∧ W'.cell? ⟨wr.heap.size, 0, none⟩ = some (.int .u8 (t.size : Int)) := by
        intro W' h2
        obtain ⟨h3, h4⟩ := hlow _ W' (((Below.refl _ wr).alloc (Nat.le_refl _) _).drew) h2
        exact ⟨h3, h4, (h2.cell (p := ⟨wr.heap.size, 0, none⟩) (by show wr.heap.size < (wr.heap.push _).size; simp)).trans (Boxed.new wr 5 _).cell⟩
      have HL2 : Hid (∀ (G : Prop) (W' : World), Below ((wr.alloc (.cells #[.int .u8 (t.size : Int)] 5)).drew).heap.size ((wr.alloc (.cells #[.int .u8 (t.size : Int)] 5)).drew) W' → (Below wr.heap.size wr W' → W'.cell? ⟨g, k, none⟩ = some (.string t) → W'.cell? ⟨wr.heap.size, 0, none⟩ = some (.int .u8 (t.size : Int)) → G) → G) :=
        fun G W' h hG => hG (hlow2 W' h).1 (hlow2 W' h).2.1 (hlow2 W' h).2.2
      have HL1 : Hid (∀ (G : Prop) (W' : World), Below wr.drew.heap.size wr.drew W' → (Below wr.heap.size wr W' → W'.cell? ⟨g, k, none⟩ = some (.string t) → wr.heap.size ≤ W'.heap.size → G) → G) :=
        fun G W' h hG => hG (hlow _ W' ((Below.refl _ wr).drew) h).1 (hlow _ W' ((Below.refl _ wr).drew) h).2 h.size
      clear hlow hlow2
      go_region_with (go_at_call 70; refine (HSm.out _).mono ?_; rintro e w3 ⟨rfl, hb3⟩; (first | refine HL2.out _ w3 hb3 ?_ | refine HL1.out _ w3 hb3 ?_); intro hB3 hcx3 hcn3; clear hb3)
      all_goals go_wp2
      all_goals
        refine ⟨⟨k + 1, s ++ ⟨#[UInt8.ofNat t.size]⟩ ++ u, by omega, by go_num, rfl, ?_, ?_, ?_⟩, by simp [intOf]; omega⟩
        · rw [Hid, HT.out, ← hfl.out, ByteArray.data_append, ByteArray.data_append, Array.toList_append, Array.toList_append, List.append_assoc]; rfl
        · rw [HCZ.out]; exact hle2
        · have hZ := hbl.trans (hB3.mono hbl.size)
          first | exact hZ | exact hZ.alloc hZ.size _ | exact (hZ.alloc hZ.size _).drew | exact hZ.drew | exact hZ.drew.alloc hZ.size _
    · have hall : ls.take k = ls := List.take_of_length_le (by omega)
      have hR : s ++ (⟨#[0]⟩ : ByteArray) = nm (lowN ls) := by
        have hf := hfl.out
        rw [hall] at hf
        apply ba_ext
        rw [ByteArray.data_append, Array.toList_append, hf]; rfl
      have HR := Hid.mk hR
      clear hR hall hv
      go_wp2
      go_ret
      exact ⟨by rw [← HR.out]; rfl, bthen hb1 hbl⟩

end Go.Proofs.YtlcjagkfeakinaaGreatDoor

/- The document's own Tag, Digest, Of and Fits. -/
namespace Go.Proofs.YtlcjagkfeakinaaGreatDoor
set_option linter.unusedVariables false
open Go.RowKit
open G (cells_at cells_put)

set_option maxRecDepth 100000 in
theorem rtag_no (d : ByteArray) (hm : d.size ≤ 140737488355328) (hd : ¬ (5 ≤ d.size ∧ d.size ≤ 2000)) (W : World) : Calls Tryz.prog 11 #[.string d] W fun e w' => e = .returned (.tuple #[.int .i64 0, .bool false]) ∧ Below W.heap.size W w' := by
  have HK := Hid.mk (K48.refKey_in d hm)
  go_enter Tryz.func11, Tryz.ntmps11
  go_wp2_with fail
  refine (HK.out _).mono ?_
  rintro e w1 ⟨hp, hb1⟩
  obtain ⟨_, rfl⟩ := hp.resolve_left (fun h => hd h.1)
  clear hp hd
  go_wp2
  exact bodyPost_ret (v := .tuple #[.int .i64 0, .bool false]) (by simp [results, Tryz.results11, go_sem]) rfl ⟨rfl, hb1.alloc hb1.size _⟩
set_option maxRecDepth 100000 in
theorem rtag_ok (d : ByteArray) (h5 : 5 ≤ d.size) (h2 : d.size ≤ 2000) (W : World) : Calls Tryz.prog 11 #[.string d] W fun e w' => e = .returned (.tuple #[.int .i64 (tagN d.data.toList : Nat), .bool true]) ∧ Below W.heap.size W w' := by
  have HK := Hid.mk (K48.refKey_in d (by omega))
  go_enter Tryz.func11, Tryz.ntmps11
  go_wp2_with fail
  refine (HK.out _).mono ?_
  rintro e w1 ⟨hp, hb1⟩
  obtain ⟨_, n0, n1, p3, rfl⟩ := hp.resolve_right (fun h => h.1 ⟨h5, h2⟩)
  have B1 := Hid.mk (hb1.alloc hb1.size (.cells #[.int .i64 ((n0 : Nat) : Int), .int .i64 ((n1 : Nat) : Int), .int .i64 ((K48.algN d : Nat) : Int), .string p3] 68))
  clear hp hb1
  go_wp2
  obtain ⟨V, hV⟩ : ∃ V, w1.alloc (.cells #[.int .i64 ((n0 : Nat) : Int), .int .i64 ((n1 : Nat) : Int), .int .i64 ((K48.algN d : Nat) : Int), .string p3] 68) = V := ⟨_, rfl⟩
  rw [hV] at B1
  rw [hV]
  clear hV
  go_loopw [6, 7] (fun sv i wr => ∃ k : Nat, k ≤ d.size ∧ i = .int .i64 k ∧ sv = .int .i64 (tagP d.data.toList k : Nat) ∧ wr = V) (fun _ i _ => d.size - (intOf i).toNat)
  case atStart => exact ⟨0, Nat.zero_le _, rfl, rfl, rfl⟩
  case round =>
    obtain ⟨k, hk, rfl, rfl, rfl⟩ := hrel
    have hle := tagP_le d.data.toList k
    by_cases hlt : k < d.size
    · have hb := d[k].toNat_lt
      have hg := gB_at d k hlt
      rcases Nat.mod_two_eq_zero_or_one k with hm | hm
      · have hn : tagP d.data.toList (k + 1) = tagP d.data.toList k + 256 * d[k].toNat := by
          rw [tagP, hg]; unfold wtB; rw [if_pos hm]
        have HN := Hid.mk hn
        clear hn hg
        generalize tagP d.data.toList k = q at hle HN ⊢
        have h1 : (k : Int).tmod 2 = 0 := by rw [Int.tmod_eq_emod_of_nonneg (by omega)]; omega
        have h2' : IntKind.i64.wrap (d[k].toNat : Int) = (d[k].toNat : Int) := by rw [IntKind.wrap_i64]; omega
        have h3 : IntKind.i64.wrap (256 * (d[k].toNat : Int)) = 256 * (d[k].toNat : Int) := by rw [IntKind.wrap_i64]; omega
        have h4 : IntKind.i64.wrap ((q : Int) + 256 * (d[k].toNat : Int)) = (q : Int) + 256 * (d[k].toNat : Int) := by rw [IntKind.wrap_i64]; omega
        go_wp2
        exact ⟨⟨k + 1, by omega, by go_num, by rw [HN.out]; go_num, trivial⟩, by simp [intOf]; omega⟩
      · have hn : tagP d.data.toList (k + 1) = tagP d.data.toList k + d[k].toNat := by
          rw [tagP, hg]; unfold wtB; rw [if_neg (by omega), Nat.one_mul]
        have HN := Hid.mk hn
        clear hn hg
        generalize tagP d.data.toList k = q at hle HN ⊢
        have h1 : (k : Int).tmod 2 = 1 := by rw [Int.tmod_eq_emod_of_nonneg (by omega)]; omega
        have h2' : IntKind.i64.wrap (d[k].toNat : Int) = (d[k].toNat : Int) := by rw [IntKind.wrap_i64]; omega
        have h4 : IntKind.i64.wrap ((q : Int) + (d[k].toNat : Int)) = (q : Int) + (d[k].toNat : Int) := by rw [IntKind.wrap_i64]; omega
        go_wp2
        exact ⟨⟨k + 1, by omega, by go_num, by rw [HN.out]; go_num, trivial⟩, by simp [intOf]; omega⟩
    · have hall : tagP d.data.toList k = tagS d.data.toList := by unfold tagS; congr 1; rw [size_list]; omega
      have HT := Hid.mk (show tagN d.data.toList = (tagP d.data.toList k + tagP d.data.toList k / 65536) % 65536 by rw [hall]; rfl)
      clear hall
      generalize tagP d.data.toList k = q at hle HT ⊢
      obtain ⟨t, ht⟩ : ∃ t, (q + q / 65536) % 65536 = t := ⟨_, rfl⟩
      have h0 : (q : Int).tdiv 65536 = ((q / 65536 : Nat) : Int) := rfl
      have h1 : IntKind.i64.wrap ((q / 65536 : Nat) : Int) = ((q / 65536 : Nat) : Int) := by rw [IntKind.wrap_i64]; omega
      have h2' : IntKind.i64.wrap ((q : Int) + ((q / 65536 : Nat) : Int)) = (q : Int) + ((q / 65536 : Nat) : Int) := by rw [IntKind.wrap_i64]; omega
      have h3 : ((q : Int) + ((q / 65536 : Nat) : Int)).tmod 65536 = (t : Int) := by rw [Int.tmod_eq_emod_of_nonneg (by omega)]; omega
      have h4 : IntKind.i64.wrap (t : Int) = (t : Int) := by rw [IntKind.wrap_i64]; omega
      have HTT := Hid.mk (HT.out.trans ht)
      clear ht HT
      generalize q / 65536 = r at h0 h1 h2' h3
      go_wp2
      exact bodyPost_ret (v := .tuple #[.int .i64 (t : Nat), .bool true]) (by simp [results, Tryz.results11, go_sem]) rfl ⟨by rw [HTT.out], B1.out⟩
/-- the document's Key, in one form. -/
theorem rkey_any (d : ByteArray) (hm : d.size ≤ 140737488355328) (W : World) : Calls Tryz.prog 31 #[.string d] W fun e w' => (∃ (a b : Int) (p : ByteArray), e = .returned (.tuple #[.agg #[.int .i64 a, .int .i64 b, .int .i64 (if 5 ≤ d.size ∧ d.size ≤ 2000 then (K48.algN d : Nat) else 0 : Int), .string p], .bool (decide (5 ≤ d.size ∧ d.size ≤ 2000))])) ∧ Below W.heap.size W w' := by
  refine (K48.refKey_in d hm W).mono ?_
  rintro e w' ⟨h, hb⟩
  refine ⟨?_, hb⟩
  rcases h with ⟨h, n0, n1, p3, rfl⟩ | ⟨h, rfl⟩
  · exact ⟨_, _, _, by rw [if_pos h, decide_eq_true h]⟩
  · exact ⟨_, _, _, by rw [if_neg h, decide_eq_false h]⟩
set_option maxRecDepth 100000 in
theorem rdig_no (k : Int) (ow d : ByteArray) (r ok : Bool) (z c : Int) (hc : (¬ (k = 1 ∨ k = 2) ∧ c = 1) ∨ ((k = 1 ∨ k = 2) ∧ r = false ∧ c = 2) ∨ ((k = 1 ∨ k = 2) ∧ r = true ∧ ok = false ∧ c = 6))
    (HK : Hid (∀ w, Calls Tryz.prog 31 #[.string d] w fun e w' => (∃ (a b : Int) (p : ByteArray), e = .returned (.tuple #[.agg #[.int .i64 a, .int .i64 b, .int .i64 z, .string p], .bool ok])) ∧ Below w.heap.size w w'))
    (HR : Hid (∀ w, Calls Tryz.prog 35 #[.string ow] w fun e w' => e = .returned (.bool r) ∧ Below w.heap.size w w')) (W : World) :
    Calls Tryz.prog 13 #[.int .i64 k, .string ow, .string d] W fun e w' => e = .returned (.tuple #[.string ⟨#[]⟩, .int .i64 c]) ∧ Below W.heap.size W w' := by
  rcases hc with ⟨hk, rfl⟩ | ⟨hk, rfl, rfl⟩ | ⟨hk, rfl, rfl, rfl⟩
  · have k1 : (k != 1) = true := by simp; omega
    have k2 : (k != 2) = true := by simp; omega
    clear hk
    go_enter Tryz.func13, Tryz.ntmps13
    go_wp2_with fail
    refine (HK.out _).mono ?_
    rintro e w1 ⟨⟨a, b, p, rfl⟩, hb1⟩
    go_wp2_with fail
    refine (HR.out _).mono ?_
    rintro e w2 ⟨rfl, hb2⟩
    have hA := hb1.alloc hb1.size (.cells #[.int .i64 a, .int .i64 b, .int .i64 z, .string p] 68)
    go_wp2
    exact bodyPost_ret (v := .tuple #[.string ⟨#[]⟩, .int .i64 1]) (by simp [results, Tryz.results13, go_sem]) rfl ⟨rfl, bth hA hb2 hA.size⟩
  · rcases hk with rfl | rfl
    all_goals
      go_enter Tryz.func13, Tryz.ntmps13
      go_wp2_with fail
      refine (HK.out _).mono ?_
      rintro e w1 ⟨⟨a, b, p, rfl⟩, hb1⟩
      go_wp2_with fail
      refine (HR.out _).mono ?_
      rintro e w2 ⟨rfl, hb2⟩
      have hA := hb1.alloc hb1.size (.cells #[.int .i64 a, .int .i64 b, .int .i64 z, .string p] 68)
      go_wp2
      exact bodyPost_ret (v := .tuple #[.string ⟨#[]⟩, .int .i64 2]) (by simp [results, Tryz.results13, go_sem]) rfl ⟨rfl, bth hA hb2 hA.size⟩
  · rcases hk with rfl | rfl
    all_goals
      go_enter Tryz.func13, Tryz.ntmps13
      go_wp2_with fail
      refine (HK.out _).mono ?_
      rintro e w1 ⟨⟨a, b, p, rfl⟩, hb1⟩
      go_wp2_with fail
      refine (HR.out _).mono ?_
      rintro e w2 ⟨rfl, hb2⟩
      have hA := hb1.alloc hb1.size (.cells #[.int .i64 a, .int .i64 b, .int .i64 z, .string p] 68)
      go_wp2
      exact bodyPost_ret (v := .tuple #[.string ⟨#[]⟩, .int .i64 6]) (by simp [results, Tryz.results13, go_sem]) rfl ⟨rfl, bth hA hb2 hA.size⟩
set_option maxRecDepth 100000 in
theorem rdig_yes (k : Int) (hk : k = 1 ∨ k = 2) (ow lo d R : ByteArray) (z : Int) (hcat : lo.size + d.size ≤ 140737488351232)
    (HK : Hid (∀ w, Calls Tryz.prog 31 #[.string d] w fun e w' => (∃ (a b : Int) (p : ByteArray), e = .returned (.tuple #[.agg #[.int .i64 a, .int .i64 b, .int .i64 z, .string p], .bool true])) ∧ Below w.heap.size w w'))
    (HR : Hid (∀ w, Calls Tryz.prog 35 #[.string ow] w fun e w' => e = .returned (.bool true) ∧ Below w.heap.size w w'))
    (HL : Hid (∀ w, Calls Tryz.prog 37 #[.string ow] w fun e w' => e = .returned (.string lo) ∧ Below w.heap.size w w'))
    (HS1 : k = 1 → Hid (∀ w, Calls Tryz.prog 36 #[.string (lo ++ d)] w fun e w' => e = .returned (.string R) ∧ Below w.heap.size w w'))
    (HS2 : k = 2 → Hid (∀ w, Calls Tryz.prog 38 #[.string (lo ++ d)] w fun e w' => e = .returned (.string R) ∧ Below w.heap.size w w')) (W : World) :
    Calls Tryz.prog 13 #[.int .i64 k, .string ow, .string d] W fun e w' => e = .returned (.tuple #[.string R, .int .i64 0]) ∧ Below W.heap.size W w' := by
  have hnl : ¬ (9223372036854775807 < lo.size + d.size) := by omega
  rcases hk with rfl | rfl
  · have HS := HS1 rfl
    clear HS1 HS2
    go_enter Tryz.func13, Tryz.ntmps13
    go_wp2_with fail
    refine (HK.out _).mono ?_
    rintro e w1 ⟨⟨a, b, p, rfl⟩, hb1⟩
    go_wp2_with fail
    refine (HR.out _).mono ?_
    rintro e w2 ⟨rfl, hb2⟩
    have hA := hb1.alloc hb1.size (.cells #[.int .i64 a, .int .i64 b, .int .i64 z, .string p] 68)
    have B2 := Hid.mk (bth hA hb2 hA.size)
    clear hA hb1 hb2
    go_wp2_with fail
    refine (HL.out _).mono ?_
    rintro e w3 ⟨rfl, hb3⟩
    have B3 := Hid.mk (bth B2.out hb3 B2.out.size)
    clear hb3
    go_wp2_with fail
    refine (HS.out _).mono ?_
    rintro e w4 ⟨rfl, hb4⟩
    go_wp2
    exact bodyPost_ret (v := .tuple #[.string R, .int .i64 0]) (by simp [results, Tryz.results13, go_sem]) rfl ⟨rfl, bth B3.out hb4 B3.out.size⟩
  · have HS := HS2 rfl
    clear HS1 HS2
    go_enter Tryz.func13, Tryz.ntmps13
    go_wp2_with fail
    refine (HK.out _).mono ?_
    rintro e w1 ⟨⟨a, b, p, rfl⟩, hb1⟩
    go_wp2_with fail
    refine (HR.out _).mono ?_
    rintro e w2 ⟨rfl, hb2⟩
    have hA := hb1.alloc hb1.size (.cells #[.int .i64 a, .int .i64 b, .int .i64 z, .string p] 68)
    have B2 := Hid.mk (bth hA hb2 hA.size)
    clear hA hb1 hb2
    go_wp2_with fail
    refine (HL.out _).mono ?_
    rintro e w3 ⟨rfl, hb3⟩
    have B3 := Hid.mk (bth B2.out hb3 B2.out.size)
    clear hb3
    go_wp2_with fail
    refine (HS.out _).mono ?_
    rintro e w4 ⟨rfl, hb4⟩
    go_wp2
    exact bodyPost_ret (v := .tuple #[.string R, .int .i64 0]) (by simp [results, Tryz.results13, go_sem]) rfl ⟨rfl, bth B3.out hb4 B3.out.size⟩
theorem rright_any (s : ByteArray) (hm : s.size ≤ maxLen) (r : Bool) (hr : r = true ↔ IsName s) (w : World) : Calls Tryz.prog 35 #[.string s] w fun e w' => e = .returned (.bool r) ∧ Below w.heap.size w w' := by
  cases r with
  | true =>
    obtain ⟨ls, ho, rfl⟩ := hr.1 rfl
    exact rRight_yes ls ho w
  | false => exact rRight_no s hm (fun h => by simpa using hr.2 h) w
theorem rdigest_in (k : Int) (ow d : ByteArray) (ho : ow.size ≤ 140737488351232) (hd : d.size ≤ 140737488351232) (w : World) :
    Calls Tryz.prog 13 #[.int .i64 k, .string ow, .string d] w fun e w' => e = .returned (.tuple #[.string (digR k ow d).1, .int .i64 (digR k ow d).2]) ∧ Below w.heap.size w w' := by
  have HK := Hid.mk (fun w => rkey_any d (by omega) w)
  have hm : ow.size ≤ maxLen := by unfold maxLen; omega
  unfold digR
  by_cases hk : k = 1 ∨ k = 2
  · rw [if_neg (not_not_intro hk)]
    by_cases hn : IsName ow
    · rw [if_neg (not_not_intro hn)]
      have HR := Hid.mk (rright_any ow hm true ⟨fun _ => hn, fun _ => rfl⟩)
      by_cases h5 : 5 ≤ d.size ∧ d.size ≤ 2000
      · rw [if_neg (not_not_intro h5)]
        rw [decide_eq_true h5] at HK
        obtain ⟨ls, hl, rfl⟩ := hn
        have hs := knm_size hl.low
        refine rdig_yes k hk (nm ls) (nm (lowN ls)) d _ _ (by omega) HK HR (Hid.mk (rLower_yes ls hl)) (fun h => Hid.mk fun w => ?_) (fun h => Hid.mk fun w => ?_) w
        · have := G.rsum1_in (nm (lowN ls) ++ d) (by rw [ByteArray.size_append]; omega) w
          rw [app_list, low_bytes hl] at this
          unfold hshd
          rw [if_pos h]
          exact this
        · have := G.rsum2_in (nm (lowN ls) ++ d) (by rw [ByteArray.size_append]; omega) w
          rw [app_list, low_bytes hl] at this
          unfold hshd
          rw [if_neg (by omega)]
          exact this
      · rw [if_pos h5]
        rw [decide_eq_false h5] at HK
        exact rdig_no k ow d true false _ 6 (.inr (.inr ⟨hk, rfl, rfl, rfl⟩)) HK HR w
    · rw [if_pos hn]
      exact rdig_no k ow d false _ _ 2 (.inr (.inl ⟨hk, rfl, rfl⟩)) HK (Hid.mk (rright_any ow hm false ⟨fun h => by simp at h, fun h => absurd h hn⟩)) w
  · rw [if_pos hk]
    by_cases hn : IsName ow
    · exact rdig_no k ow d true _ _ 1 (.inl ⟨hk, rfl⟩) HK (Hid.mk (rright_any ow hm true ⟨fun _ => hn, fun _ => rfl⟩)) w
    · exact rdig_no k ow d false _ _ 1 (.inl ⟨hk, rfl⟩) HK (Hid.mk (rright_any ow hm false ⟨fun h => by simp at h, fun h => absurd h hn⟩)) w
set_option maxRecDepth 100000 in
set_option maxHeartbeats 2000000 in
theorem rds_no (k E : Int) (ow d S : ByteArray) (hE : E ≠ 0) (W : World) (HD : Hid (∀ w, Calls Tryz.prog 13 #[.int .i64 k, .string ow, .string d] w fun e w' => e = .returned (.tuple #[.string S, .int .i64 E]) ∧ Below w.heap.size w w')) :
    Calls Tryz.prog 15 #[.string ow, .string d, .int .i64 k] W fun e w' => e = .returned (.tuple #[.agg (dsV 0 0 0 ⟨#[]⟩), .int .i64 E]) ∧ Below W.heap.size W w' := by
  have hE2 : (E != 0) = true := by simpa using hE
  go_enter Tryz.func15, Tryz.ntmps15
  go_wp2_with fail
  refine (HD.out _).mono ?_
  rintro e w1 ⟨rfl, hb1⟩
  have hbx := (hb1.block _ (by simp)).trans (heap_new W (.cells (dsV 0 0 0 ⟨#[]⟩) 23))
  obtain ⟨a0, f0⟩ := cells_at (v := .int .i64 0) (j := 0) hbx rfl
  obtain ⟨a1, f1⟩ := cells_at (v := .int .i64 0) (j := 1) hbx rfl
  obtain ⟨a2, f2⟩ := cells_at (v := .int .i64 0) (j := 2) hbx rfl
  obtain ⟨a3, f3⟩ := cells_at (v := .string ⟨#[]⟩) (j := 3) hbx rfl
  have HBX := Hid.mk hbx
  clear hbx
  go_wp2
  have hf := put4 HBX.out (.int .i64 0) (.int .i64 0) (.int .i64 0) (.string ⟨#[]⟩)
  refine bodyPost_ret (v := .tuple #[.agg (dsV 0 0 0 ⟨#[]⟩), .int .i64 E]) (by simp [results, Tryz.results15, go_sem, (cells_at (v := .int .i64 0) (j := 0) hf rfl).1, (cells_at (v := .int .i64 0) (j := 1) hf rfl).1, (cells_at (v := .int .i64 0) (j := 2) hf rfl).1, (cells_at (v := .string ⟨#[]⟩) (j := 3) hf rfl).1]) rfl ⟨rfl, ?_⟩
  exact put4_below (((Below.refl _ _).alloc (Nat.le_refl _) _).trans (hb1.mono (by simp))) (Nat.le_refl _) _ _ _ _
set_option maxRecDepth 100000 in
set_option maxHeartbeats 2000000 in
theorem rds_ok (k : Int) (ow d S : ByteArray) (tg al : Nat) (W : World) (HD : Hid (∀ w, Calls Tryz.prog 13 #[.int .i64 k, .string ow, .string d] w fun e w' => e = .returned (.tuple #[.string S, .int .i64 0]) ∧ Below w.heap.size w w'))
    (HK : Hid (∀ w, Calls Tryz.prog 31 #[.string d] w fun e w' => (∃ (a b : Int) (p : ByteArray), e = .returned (.tuple #[.agg #[.int .i64 a, .int .i64 b, .int .i64 ((al : Nat) : Int), .string p], .bool true])) ∧ Below w.heap.size w w'))
    (HT : Hid (∀ w, Calls Tryz.prog 11 #[.string d] w fun e w' => e = .returned (.tuple #[.int .i64 ((tg : Nat) : Int), .bool true]) ∧ Below w.heap.size w w')) :
    Calls Tryz.prog 15 #[.string ow, .string d, .int .i64 k] W fun e w' => e = .returned (.tuple #[.agg (dsV (tg : Nat) (al : Nat) k S), .int .i64 0]) ∧ Below W.heap.size W w' := by
  go_enter Tryz.func15, Tryz.ntmps15
  go_wp2_with fail
  refine (HD.out _).mono ?_
  rintro e w1 ⟨rfl, hb1⟩
  have hbx := (hb1.block _ (by simp)).trans (heap_new W (.cells (dsV 0 0 0 ⟨#[]⟩) 23))
  have HBX := Hid.mk hbx
  have HB1 := Hid.mk (((Below.refl W.heap.size W).alloc (Nat.le_refl _) (.cells (dsV 0 0 0 ⟨#[]⟩) 23)).trans (hb1.mono (by simp)))
  clear hbx hb1
  go_wp2_with fail
  refine (HK.out _).mono ?_
  rintro e w2 ⟨⟨m0, m1, p3, rfl⟩, hb2⟩
  have hbx := (hb2.block _ (box_lt HBX.out)).trans HBX.out
  have HB2 := Hid.mk (bth HB1.out hb2 HB1.out.size)
  have hA := HB2.out.alloc HB2.out.size (.cells #[.int .i64 m0, .int .i64 m1, .int .i64 ((al : Nat) : Int), .string p3] 68)
  have HA := Hid.mk hA
  have hy := heap_new w2 (.cells #[.int .i64 m0, .int .i64 m1, .int .i64 ((al : Nat) : Int), .string p3] 68)
  have HY := Hid.mk hy
  have hx2 := (alloc_old w2 (.cells #[.int .i64 m0, .int .i64 m1, .int .i64 ((al : Nat) : Int), .string p3] 68) _ (box_lt hbx)).trans hbx
  have HX2 := Hid.mk hx2
  clear hbx hb2 hA hy hx2
  go_wp2_with fail
  refine (HT.out _).mono ?_
  rintro e w3 ⟨rfl, hb3⟩
  have hy := (hb3.block _ (box_lt HY.out)).trans HY.out
  have hx := (hb3.block _ (box_lt HX2.out)).trans HX2.out
  have HB3 := Hid.mk (bth HA.out hb3 HA.out.size)
  obtain ⟨y2, _⟩ := cells_at (v := .int .i64 ((al : Nat) : Int)) (j := 2) hy rfl
  obtain ⟨a0, f0⟩ := cells_at (v := .int .i64 0) (j := 0) hx rfl
  obtain ⟨a1, f1⟩ := cells_at (v := .int .i64 0) (j := 1) hx rfl
  obtain ⟨a2, f2⟩ := cells_at (v := .int .i64 0) (j := 2) hx rfl
  obtain ⟨a3, f3⟩ := cells_at (v := .string ⟨#[]⟩) (j := 3) hx rfl
  have HX3 := Hid.mk hx
  clear hx hy hb3
  go_wp2
  have hf := put4 HX3.out (.int .i64 ((tg : Nat) : Int)) (.int .i64 ((al : Nat) : Int)) (.int .i64 k) (.string S)
  refine bodyPost_ret (v := .tuple #[.agg (dsV (tg : Nat) (al : Nat) k S), .int .i64 0]) (by simp [results, Tryz.results15, go_sem, (cells_at (v := .int .i64 ((tg : Nat) : Int)) (j := 0) hf rfl).1, (cells_at (v := .int .i64 ((al : Nat) : Int)) (j := 1) hf rfl).1, (cells_at (v := .int .i64 k) (j := 2) hf rfl).1, (cells_at (v := .string S) (j := 3) hf rfl).1]) rfl ⟨rfl, ?_⟩
  exact put4_below HB3.out (Nat.le_refl _) _ _ _ _
theorem rds_in (k : Int) (ow d : ByteArray) (ho : ow.size ≤ 140737488351232) (hd : d.size ≤ 140737488351232) (W : World) :
    Calls Tryz.prog 15 #[.string ow, .string d, .int .i64 k] W fun e w' => e = .returned (.tuple #[.agg (dsV (dsR k ow d).1.1 (dsR k ow d).1.2.1 (dsR k ow d).1.2.2.1 (dsR k ow d).1.2.2.2), .int .i64 (dsR k ow d).2]) ∧ Below W.heap.size W w' := by
  unfold dsR
  by_cases h : (digR k ow d).2 = 0
  · rw [if_pos h]
    obtain ⟨_, _, h5, h2⟩ := digR_right h
    refine rds_ok k ow d _ _ _ W (Hid.mk fun w => ?_) (Hid.mk fun w => ?_) (Hid.mk fun w => rtag_ok d h5 h2 w)
    · have := rdigest_in k ow d ho hd w
      rwa [h] at this
    · have := rkey_any d (by omega) w
      rwa [if_pos ⟨h5, h2⟩, decide_eq_true ⟨h5, h2⟩] at this
  · rw [if_neg h]
    exact rds_no k _ ow d _ h W (Hid.mk fun w => rdigest_in k ow d ho hd w)
set_option maxRecDepth 100000 in
set_option maxHeartbeats 2000000 in
theorem rfits_gen (t a k t' a' k' E : Int) (ow d s s' : ByteArray) (W : World) (HO : Hid (∀ w, Calls Tryz.prog 15 #[.string ow, .string d, .int .i64 k] w fun e w' => e = .returned (.tuple #[.agg (dsV t' a' k' s'), .int .i64 E]) ∧ Below w.heap.size w w')) :
    Calls Tryz.prog 16 #[.string ow, .string d, .agg (dsV t a k s)] W fun e w' => e = .returned (.bool (decide (E = 0 ∧ t = t' ∧ a = a' ∧ k = k' ∧ s = s'))) ∧ Below W.heap.size W w' := by
  by_cases hE : E = 0
  · subst hE
    go_enter Tryz.func16, Tryz.ntmps16
    go_wp2_with fail
    refine (HO.out _).mono ?_
    rintro e w1 ⟨rfl, hb1⟩
    have hbx := (hb1.block _ (by simp)).trans (heap_new W (.cells (dsV t a k s) 23))
    have hlt := box_lt hbx
    obtain ⟨a0, f0⟩ := cells_at (v := .int .i64 t) (j := 0) hbx rfl
    obtain ⟨a1, f1⟩ := cells_at (v := .int .i64 a) (j := 1) hbx rfl
    obtain ⟨a2, f2⟩ := cells_at (v := .int .i64 k) (j := 2) hbx rfl
    obtain ⟨a3, f3⟩ := cells_at (v := .string s) (j := 3) hbx rfl
    have hne : W.heap.size ≠ w1.heap.size := by omega
    clear hbx
    have HB1 := Hid.mk (((Below.refl W.heap.size W).alloc (Nat.le_refl _) (.cells (dsV t a k s) 23)).trans (hb1.mono (by simp)))
    clear hb1
    go_wp2
    all_goals
      go_ret
      refine ⟨ret_dec ?_, HB1.out.alloc HB1.out.size _⟩
      simp_all [toList_iff]
  · have hE2 : (E == 0) = false := by simpa using hE
    have hD : decide (E = 0 ∧ t = t' ∧ a = a' ∧ k = k' ∧ s = s') = false := by simp [hE]
    rw [hD]
    clear hD hE
    go_enter Tryz.func16, Tryz.ntmps16
    go_wp2_with fail
    refine (HO.out _).mono ?_
    rintro e w1 ⟨rfl, hb1⟩
    have HB1 := Hid.mk (((Below.refl W.heap.size W).alloc (Nat.le_refl _) (.cells (dsV t a k s) 23)).trans (hb1.mono (by simp)))
    clear hb1
    go_wp2
    go_ret
    exact ⟨rfl, HB1.out.alloc HB1.out.size _⟩
theorem rfits_in (t a k : Int) (ow d s : ByteArray) (ho : ow.size ≤ 140737488351232) (hd : d.size ≤ 140737488351232) (W : World) :
    Calls Tryz.prog 16 #[.string ow, .string d, .agg (dsV t a k s)] W fun e w' => e = .returned (.bool (decide ((dsR k ow d).2 = 0 ∧ (dsR k ow d).1.1 = t ∧ (dsR k ow d).1.2.1 = a ∧ (dsR k ow d).1.2.2.1 = k ∧ (dsR k ow d).1.2.2.2 = s))) ∧ Below W.heap.size W w' := by
  have := rfits_gen t a k _ _ _ _ ow d s _ W (Hid.mk fun w => rds_in k ow d ho hd w)
  rwa [decide_eq_decide.2 (show _ ↔ ((dsR k ow d).2 = 0 ∧ (dsR k ow d).1.1 = t ∧ (dsR k ow d).1.2.1 = a ∧ (dsR k ow d).1.2.2.1 = k ∧ (dsR k ow d).1.2.2.2 = s) from ⟨fun h => ⟨h.1, h.2.1.symm, h.2.2.1.symm, h.2.2.2.1.symm, h.2.2.2.2.symm⟩, fun h => ⟨h.1, h.2.1.symm, h.2.2.1.symm, h.2.2.2.1.symm, h.2.2.2.2.symm⟩⟩)] at this
end Go.Proofs.YtlcjagkfeakinaaGreatDoor

/- KeysTags: the walk. -/
namespace Go.Proofs.YtlcjagkfeakinaaGreatDoor
set_option linter.unusedVariables false
open Go.RowKit
open G (cells_at cells_put)
theorem kds4 {V : World} {b : Nat} {t a k : Int} {s : ByteArray} (h : V.heap[b]? = some (.cells (dsV t a k s) 23 (0, 0))) :
    V.cell? ⟨b, 0, none⟩ = some (.int .i64 t) ∧ V.cell? ⟨b, 1, none⟩ = some (.int .i64 a) ∧ V.cell? ⟨b, 2, none⟩ = some (.int .i64 k) ∧ V.cell? ⟨b, 3, none⟩ = some (.string s) :=
  ⟨(cells_at (j := 0) h rfl).1, (cells_at (j := 1) h rfl).1, (cells_at (j := 2) h rfl).1, (cells_at (j := 3) h rfl).1⟩
set_option maxRecDepth 100000 in
set_option maxHeartbeats 2000000 in
theorem tags_ok (k : Int) (ow d : ByteArray) (xt xa xk : Int) (xs : ByteArray) (tg : Int) (S : ByteArray) (c : Int) (yt ya yk : Int) (ys : ByteArray) (yc : Int) (q : Bool)
    (H1 : Hid (∀ W, Calls Tryz.prog 10 #[.string d] W fun e w' => e = .returned (.tuple #[.int .i64 tg, .int .i64 0]) ∧ Below W.heap.size W w'))
    (H2 : Hid (∀ W, Calls Tryz.prog 11 #[.string d] W fun e w' => e = .returned (.tuple #[.int .i64 tg, .bool true]) ∧ Below W.heap.size W w'))
    (H3 : Hid (∀ W, G.Rk W → Calls Tryz.prog 12 #[.int .i64 k, .string ow, .string d] W fun e w' => e = .returned (.tuple #[.string S, .int .i64 c]) ∧ Below W.heap.size W w'))
    (H4 : Hid (∀ W, Calls Tryz.prog 13 #[.int .i64 k, .string ow, .string d] W fun e w' => e = .returned (.tuple #[.string S, .int .i64 c]) ∧ Below W.heap.size W w'))
    (H5 : Hid (∀ W, G.Rk W → Calls Tryz.prog 14 #[.string ow, .string d, .int .i64 k] W fun e w' => e = .returned (.tuple #[.agg (dsV yt ya yk ys), .int .i64 yc]) ∧ Below W.heap.size W w'))
    (H6 : Hid (∀ W, Calls Tryz.prog 15 #[.string ow, .string d, .int .i64 k] W fun e w' => e = .returned (.tuple #[.agg (dsV yt ya yk ys), .int .i64 yc]) ∧ Below W.heap.size W w'))
    (H7 : Hid (∀ W, Calls Tryz.prog 16 #[.string ow, .string d, .agg (dsV xt xa xk xs)] W fun e w' => e = .returned (.bool q) ∧ Below W.heap.size W w'))
    (H8 : Hid (∀ W, G.Rk W → Calls Tryz.prog 17 #[.string ow, .string d, .agg (dsV xt xa xk xs)] W fun e w' => e = .returned (.bool q) ∧ Below W.heap.size W w'))
    (W : World) (hG : G.Rk W) :
    Calls Tryz.prog 3 #[.int .i64 k, .string ow, .string d, .agg (dsV xt xa xk xs)] W fun e w' => e = .returned (.bool true) ∧ Below W.heap.size W w' := by
  have HX := Hid.mk kexamples_in
  have G0 := Hid.mk hG
  have B0 := Hid.mk ((Below.refl W.heap.size W).alloc (Nat.le_refl _) (.cells (dsV xt xa xk xs) 23))
  have X0 := Hid.mk (heap_new W (.cells (dsV xt xa xk xs) 23))
  clear hG
  go_enter Tryz.func3, Tryz.ntmps3
  go_wp2_with fail
  refine (HX.out _ (G0.out.below B0.out)).mono ?_
  rintro e w1 ⟨rfl, hb⟩
  have B1 := Hid.mk (bth B0.out hb B0.out.size)
  have X1 := Hid.mk ((hb.block _ (box_lt X0.out)).trans X0.out)
  clear hb
  go_wp2_with fail
  refine (H1.out _).mono ?_
  rintro e w2 ⟨rfl, hb⟩
  have B2 := Hid.mk (bth B1.out hb B1.out.size)
  have X2 := Hid.mk ((hb.block _ (box_lt X1.out)).trans X1.out)
  clear hb
  go_wp2_with fail
  refine (H2.out _).mono ?_
  rintro e w3 ⟨rfl, hb⟩
  have B3 := Hid.mk (bth B2.out hb B2.out.size)
  have X3 := Hid.mk ((hb.block _ (box_lt X2.out)).trans X2.out)
  clear hb
  go_wp2_with fail
  refine (H3.out _ (G0.out.below B3.out)).mono ?_
  rintro e w4 ⟨rfl, hb⟩
  have B4 := Hid.mk (bth B3.out hb B3.out.size)
  have X4 := Hid.mk ((hb.block _ (box_lt X3.out)).trans X3.out)
  clear hb
  go_wp2_with fail
  refine (H4.out _).mono ?_
  rintro e w5 ⟨rfl, hb⟩
  have B5 := Hid.mk (bth B4.out hb B4.out.size)
  have X5 := Hid.mk ((hb.block _ (box_lt X4.out)).trans X4.out)
  clear hb
  go_wp2_with fail
  refine (H5.out _ (G0.out.below B5.out)).mono ?_
  rintro e w6 ⟨rfl, hb⟩
  have B6 := Hid.mk (bth B5.out hb B5.out.size)
  have X6 := Hid.mk ((hb.block _ (box_lt X5.out)).trans X5.out)
  clear hb
  have B6' := Hid.mk (B6.out.alloc B6.out.size (.cells (dsV yt ya yk ys) 23))
  have X6' := Hid.mk ((alloc_old w6 (.cells (dsV yt ya yk ys) 23) _ (box_lt X6.out)).trans X6.out)
  have Y6 := Hid.mk (heap_new w6 (.cells (dsV yt ya yk ys) 23))
  go_wp2_with fail
  refine (H6.out _).mono ?_
  rintro e w7 ⟨rfl, hb⟩
  have B7 := Hid.mk (bth B6'.out hb B6'.out.size)
  have X7 := Hid.mk ((hb.block _ (box_lt X6'.out)).trans X6'.out)
  have Y7 := Hid.mk ((hb.block _ (box_lt Y6.out)).trans Y6.out)
  clear hb
  have B7' := Hid.mk (B7.out.alloc B7.out.size (.cells (dsV yt ya yk ys) 23))
  have X7' := Hid.mk ((alloc_old w7 (.cells (dsV yt ya yk ys) 23) _ (box_lt X7.out)).trans X7.out)
  have Y7' := Hid.mk ((alloc_old w7 (.cells (dsV yt ya yk ys) 23) _ (box_lt Y7.out)).trans Y7.out)
  have Z7 := Hid.mk (heap_new w7 (.cells (dsV yt ya yk ys) 23))
  obtain ⟨x0, x1, x2, x3⟩ := kds4 X7.out
  have hxl := box_lt X7.out
  have hxn : W.heap.size ≠ w7.heap.size := by omega
  go_wp2_with fail
  refine (H7.out _).mono ?_
  rintro e w8 ⟨rfl, hb⟩
  have B8 := Hid.mk (bth B7'.out hb B7'.out.size)
  have X8 := (hb.block _ (box_lt X7'.out)).trans X7'.out
  have Y8 := (hb.block _ (box_lt Y7'.out)).trans Y7'.out
  have Z8 := (hb.block _ (box_lt Z7.out)).trans Z7.out
  clear hb x0 x1 x2 x3 hxn hxl
  obtain ⟨x0, x1, x2, x3⟩ := kds4 X8
  obtain ⟨y0, y1, y2, y3⟩ := kds4 Y8
  obtain ⟨z0, z1, z2, z3⟩ := kds4 Z8
  clear X8 Y8 Z8
  go_wp2_with fail
  refine (H8.out _ (G0.out.below B8.out)).mono ?_
  rintro e w9 ⟨rfl, hb⟩
  have B9 := Hid.mk (bth B8.out hb B8.out.size)
  clear hb x0 x1 x2 x3 y0 y1 y2 y3 z0 z1 z2 z3
  go_wp2
  go_ret
  exact ⟨by simp, B9.out⟩
set_option maxRecDepth 100000 in
set_option maxHeartbeats 2000000 in
theorem tags_no (k : Int) (ow d : ByteArray) (xt xa xk : Int) (xs : ByteArray) (tg : Int) (S : ByteArray) (c : Int) (yt ya yk : Int) (ys : ByteArray) (yc : Int) (q : Bool)
    (H1 : Hid (∀ W, Calls Tryz.prog 10 #[.string d] W fun e w' => e = .returned (.tuple #[.int .i64 tg, .int .i64 6]) ∧ Below W.heap.size W w'))
    (H2 : Hid (∀ W, Calls Tryz.prog 11 #[.string d] W fun e w' => e = .returned (.tuple #[.int .i64 tg, .bool false]) ∧ Below W.heap.size W w'))
    (H3 : Hid (∀ W, G.Rk W → Calls Tryz.prog 12 #[.int .i64 k, .string ow, .string d] W fun e w' => e = .returned (.tuple #[.string S, .int .i64 c]) ∧ Below W.heap.size W w'))
    (H4 : Hid (∀ W, Calls Tryz.prog 13 #[.int .i64 k, .string ow, .string d] W fun e w' => e = .returned (.tuple #[.string S, .int .i64 c]) ∧ Below W.heap.size W w'))
    (H5 : Hid (∀ W, G.Rk W → Calls Tryz.prog 14 #[.string ow, .string d, .int .i64 k] W fun e w' => e = .returned (.tuple #[.agg (dsV yt ya yk ys), .int .i64 yc]) ∧ Below W.heap.size W w'))
    (H6 : Hid (∀ W, Calls Tryz.prog 15 #[.string ow, .string d, .int .i64 k] W fun e w' => e = .returned (.tuple #[.agg (dsV yt ya yk ys), .int .i64 yc]) ∧ Below W.heap.size W w'))
    (H7 : Hid (∀ W, Calls Tryz.prog 16 #[.string ow, .string d, .agg (dsV xt xa xk xs)] W fun e w' => e = .returned (.bool q) ∧ Below W.heap.size W w'))
    (H8 : Hid (∀ W, G.Rk W → Calls Tryz.prog 17 #[.string ow, .string d, .agg (dsV xt xa xk xs)] W fun e w' => e = .returned (.bool q) ∧ Below W.heap.size W w'))
    (W : World) (hG : G.Rk W) :
    Calls Tryz.prog 3 #[.int .i64 k, .string ow, .string d, .agg (dsV xt xa xk xs)] W fun e w' => e = .returned (.bool true) ∧ Below W.heap.size W w' := by
  have HX := Hid.mk kexamples_in
  have G0 := Hid.mk hG
  have B0 := Hid.mk ((Below.refl W.heap.size W).alloc (Nat.le_refl _) (.cells (dsV xt xa xk xs) 23))
  have X0 := Hid.mk (heap_new W (.cells (dsV xt xa xk xs) 23))
  clear hG
  go_enter Tryz.func3, Tryz.ntmps3
  go_wp2_with fail
  refine (HX.out _ (G0.out.below B0.out)).mono ?_
  rintro e w1 ⟨rfl, hb⟩
  have B1 := Hid.mk (bth B0.out hb B0.out.size)
  have X1 := Hid.mk ((hb.block _ (box_lt X0.out)).trans X0.out)
  clear hb
  go_wp2_with fail
  refine (H1.out _).mono ?_
  rintro e w2 ⟨rfl, hb⟩
  have B2 := Hid.mk (bth B1.out hb B1.out.size)
  have X2 := Hid.mk ((hb.block _ (box_lt X1.out)).trans X1.out)
  clear hb
  go_wp2_with fail
  refine (H2.out _).mono ?_
  rintro e w3 ⟨rfl, hb⟩
  have B3 := Hid.mk (bth B2.out hb B2.out.size)
  have X3 := Hid.mk ((hb.block _ (box_lt X2.out)).trans X2.out)
  clear hb
  go_wp2_with fail
  refine (H3.out _ (G0.out.below B3.out)).mono ?_
  rintro e w4 ⟨rfl, hb⟩
  have B4 := Hid.mk (bth B3.out hb B3.out.size)
  have X4 := Hid.mk ((hb.block _ (box_lt X3.out)).trans X3.out)
  clear hb
  go_wp2_with fail
  refine (H4.out _).mono ?_
  rintro e w5 ⟨rfl, hb⟩
  have B5 := Hid.mk (bth B4.out hb B4.out.size)
  have X5 := Hid.mk ((hb.block _ (box_lt X4.out)).trans X4.out)
  clear hb
  go_wp2_with fail
  refine (H5.out _ (G0.out.below B5.out)).mono ?_
  rintro e w6 ⟨rfl, hb⟩
  have B6 := Hid.mk (bth B5.out hb B5.out.size)
  have X6 := Hid.mk ((hb.block _ (box_lt X5.out)).trans X5.out)
  clear hb
  have B6' := Hid.mk (B6.out.alloc B6.out.size (.cells (dsV yt ya yk ys) 23))
  have X6' := Hid.mk ((alloc_old w6 (.cells (dsV yt ya yk ys) 23) _ (box_lt X6.out)).trans X6.out)
  have Y6 := Hid.mk (heap_new w6 (.cells (dsV yt ya yk ys) 23))
  go_wp2_with fail
  refine (H6.out _).mono ?_
  rintro e w7 ⟨rfl, hb⟩
  have B7 := Hid.mk (bth B6'.out hb B6'.out.size)
  have X7 := Hid.mk ((hb.block _ (box_lt X6'.out)).trans X6'.out)
  have Y7 := Hid.mk ((hb.block _ (box_lt Y6.out)).trans Y6.out)
  clear hb
  have B7' := Hid.mk (B7.out.alloc B7.out.size (.cells (dsV yt ya yk ys) 23))
  have X7' := Hid.mk ((alloc_old w7 (.cells (dsV yt ya yk ys) 23) _ (box_lt X7.out)).trans X7.out)
  have Y7' := Hid.mk ((alloc_old w7 (.cells (dsV yt ya yk ys) 23) _ (box_lt Y7.out)).trans Y7.out)
  have Z7 := Hid.mk (heap_new w7 (.cells (dsV yt ya yk ys) 23))
  obtain ⟨x0, x1, x2, x3⟩ := kds4 X7.out
  have hxl := box_lt X7.out
  have hxn : W.heap.size ≠ w7.heap.size := by omega
  go_wp2_with fail
  refine (H7.out _).mono ?_
  rintro e w8 ⟨rfl, hb⟩
  have B8 := Hid.mk (bth B7'.out hb B7'.out.size)
  have X8 := (hb.block _ (box_lt X7'.out)).trans X7'.out
  have Y8 := (hb.block _ (box_lt Y7'.out)).trans Y7'.out
  have Z8 := (hb.block _ (box_lt Z7.out)).trans Z7.out
  clear hb x0 x1 x2 x3 hxn hxl
  obtain ⟨x0, x1, x2, x3⟩ := kds4 X8
  obtain ⟨y0, y1, y2, y3⟩ := kds4 Y8
  obtain ⟨z0, z1, z2, z3⟩ := kds4 Z8
  clear X8 Y8 Z8
  go_wp2_with fail
  refine (H8.out _ (G0.out.below B8.out)).mono ?_
  rintro e w9 ⟨rfl, hb⟩
  have B9 := Hid.mk (bth B8.out hb B8.out.size)
  clear hb x0 x1 x2 x3 y0 y1 y2 y3 z0 z1 z2 z3
  go_wp2
  go_ret
  exact ⟨by simp, B9.out⟩
theorem keystags_walk (k : Int) (hk : (Lit.int .i64 k).wf = true) (ow : ByteArray) (ho : ow.size ≤ 140737488351232) (d : ByteArray) (hd : d.size ≤ 140737488351232) (xt xa xk : Int) (xs : ByteArray) (W : World) (hG : G.Rk W) :
    Calls Tryz.prog 3 #[.int .i64 k, .string ow, .string d, .agg (dsV xt xa xk xs)] W fun e w' => e = .returned (.bool true) ∧ Below W.heap.size W w' := by
  have ho' : ow.size ≤ maxLen := by unfold maxLen; omega
  have hd' : d.size ≤ maxLen := by unfold maxLen; omega
  have H3 := Hid.mk (fun W hG => digest_in k ow d ho' hd' W hG)
  have H4 := Hid.mk (fun W => rdigest_in k ow d ho hd W)
  have H5 := Hid.mk (fun W hG => of_in k ow d ho' hd' W hG)
  have H6 := Hid.mk (fun W => rds_in k ow d ho hd W)
  have H7 := Hid.mk (fun W => rfits_in xt xa xk ow d xs ho hd W)
  have H8 := Hid.mk (fun W hG => fits_in xt xa xk ow d xs ho' hd' W hG)
  by_cases h : 5 ≤ d.size ∧ d.size ≤ 2000
  · exact tags_ok k ow d xt xa xk xs _ _ _ _ _ _ _ _ _ (Hid.mk (tag_ok d h.1 h.2)) (Hid.mk (rtag_ok d h.1 h.2)) H3 H4 H5 H6 H7 H8 W hG
  · exact tags_no k ow d xt xa xk xs _ _ _ _ _ _ _ _ _ (Hid.mk (tag_no d hd' h)) (Hid.mk (rtag_no d (by omega) h)) H3 H4 H5 H6 H7 H8 W hG
end Go.Proofs.YtlcjagkfeakinaaGreatDoor
