/- The document's own Shown and Text (guidepostref01). -/
import Derived.Test.YtpngjmeinlcggaaText
import Derived.Test.YtpngjmeinlcggaaRefLower
namespace Go.Proofs.Ytpngjmeinlcggaa
set_option linter.unusedVariables false
open Go.RowKit

theorem ba_cat (a b : List UInt8) : (⟨a.toArray⟩ : ByteArray) ++ (⟨b.toArray⟩ : ByteArray) = ⟨(a ++ b).toArray⟩ := by
  apply ba_ext
  rw [ByteArray.data_append, Array.toList_append]

set_option maxHeartbeats 2000000 in
theorem shown_in (s : ByteArray) (hs : s.size ≤ 63) (w : World) :
    Calls Try.prog 49 #[.string s] w fun e w' => e = .returned (.string ⟨(toldS s.data.toList).toArray⟩) ∧ Below w.heap.size w w' := by
  go_enter Try.func49, Try.ntmps49
  go_wp2
  go_loopw [3, 4] (fun ov i wr => ∃ (k : Nat) (o : ByteArray), k ≤ s.size ∧ i = .int .i64 k ∧ ov = .string o ∧ Hid (o.data.toList = toldS (s.data.toList.take k)) ∧ o.size ≤ 4 * k ∧ Below w.heap.size w wr) (fun _ i _ => s.size - (intOf i).toNat)
  case atStart => exact ⟨0, ⟨#[]⟩, Nat.zero_le _, rfl, rfl, rfl, by decide, Below.refl _ _⟩
  case round =>
    obtain ⟨k, o, hk, rfl, rfl, hfl, hoz, hbl⟩ := hrel
    by_cases hlt : k < s.size
    · have hc8 := s[k].toNat_lt
      have hnx : toldS (s.data.toList.take (k + 1)) = toldS (s.data.toList.take k) ++ toldL s[k] := by
        rw [List.take_succ_eq_append_getElem (by rw [size_list]; exact hlt), toldS_snoc]; rfl
      have hone : (s.extract k (k + 1)).data.toList = [s[k]] := by
        rw [Lib.extract_data, get_drop s k hlt]; simp
      have hones : (s.extract k (k + 1)).size = 1 := by rw [← size_list, hone]; rfl
      generalize hb : s[k] = b at hc8 hnx hone
      have HB := Hid.mk hb
      have HNX := Hid.mk hnx
      have HONE := Hid.mk hone
      have HONES := Hid.mk hones
      clear hnx hone hb hones
      by_cases h1 : b.toNat = 46 ∨ b.toNat = 92
      · have ht : toldL b = [92, b] := by unfold toldL; rw [if_pos h1]
        have HT : Hid ((o ++ ⟨#[92]⟩ ++ s.extract k (k + 1)).data.toList = toldS (s.data.toList.take (k + 1))) := by
          rw [Hid, HNX.out, ← hfl.out, ht, ByteArray.data_append, ByteArray.data_append, Array.toList_append, Array.toList_append, HONE.out, List.append_assoc]; rfl
        have HZ : Hid ((o ++ ⟨#[92]⟩ ++ s.extract k (k + 1)).size ≤ 4 * (k + 1)) := by
          rw [Hid, ByteArray.size_append, ByteArray.size_append, HONES.out]
          show o.size + 1 + 1 ≤ _
          omega
        have hbk := HB.out
        rcases h1 with h1 | h1
        · have hb1 : ((s[k].toNat : Int) == 46) = true := by rw [hbk, h1]; rfl
          clear ht hbk h1
          go_wp2
          exact ⟨⟨k + 1, _, by omega, by go_num, rfl, HT.out, HZ.out, hbl⟩, by simp [intOf]; omega⟩
        · have hb1 : ((s[k].toNat : Int) == 46) = false := by rw [hbk, h1]; rfl
          have hb2 : ((s[k].toNat : Int) == 92) = true := by rw [hbk, h1]; rfl
          clear ht hbk h1
          go_wp2
          exact ⟨⟨k + 1, _, by omega, by go_num, rfl, HT.out, HZ.out, hbl⟩, by simp [intOf]; omega⟩
      · have hbk := HB.out
        have hb1 : ((s[k].toNat : Int) == 46) = false := by rw [hbk, beq_eq_false_iff_ne]; omega
        have hb2 : ((s[k].toNat : Int) == 92) = false := by rw [hbk, beq_eq_false_iff_ne]; omega
        by_cases hp : 33 ≤ b.toNat ∧ b.toNat ≤ 126
        · have hpb : plainB b = true := by simp [plainB]; omega
          have ht : toldL b = [b] := by unfold toldL; rw [if_neg h1, if_pos hpb]
          have HT : Hid ((o ++ s.extract k (k + 1)).data.toList = toldS (s.data.toList.take (k + 1))) := by
            rw [Hid, HNX.out, ← hfl.out, ht, ByteArray.data_append, Array.toList_append, HONE.out]
          have HZ : Hid ((o ++ s.extract k (k + 1)).size ≤ 4 * (k + 1)) := by
            rw [Hid, ByteArray.size_append, HONES.out]; omega
          have p1 : 33 ≤ s[k].toNat := by rw [hbk]; exact hp.1
          have p2 : s[k].toNat ≤ 126 := by rw [hbk]; exact hp.2
          clear ht hbk h1 hp hpb
          go_wp2
          exact ⟨⟨k + 1, _, by omega, by go_num, rfl, HT.out, HZ.out, hbl⟩, by simp [intOf]; omega⟩
        · have hpb : ¬ plainB b = true := by simp [plainB]; omega
          have ht : toldL b = [92, UInt8.ofNat (48 + b.toNat / 100), UInt8.ofNat (48 + b.toNat / 10 % 10), UInt8.ofNat (48 + b.toNat % 10)] := by unfold toldL; rw [if_neg h1, if_neg hpb]
          obtain ⟨x1, hx1⟩ : ∃ x, x = UInt8.ofNat (48 + b.toNat / 100) := ⟨_, rfl⟩
          obtain ⟨x2, hx2⟩ : ∃ x, x = UInt8.ofNat (48 + b.toNat / 10 % 10) := ⟨_, rfl⟩
          obtain ⟨x3, hx3⟩ : ∃ x, x = UInt8.ofNat (48 + b.toNat % 10) := ⟨_, rfl⟩
          have e1 : (48 + (s[k].toNat : Int) / 100) = (x1.toNat : Int) := by rw [hx1, hbk]; simp; omega
          have e2 : (48 + (s[k].toNat : Int) / 10 % 10) = (x2.toNat : Int) := by rw [hx2, hbk]; simp; omega
          have e3 : (48 + (s[k].toNat : Int) % 10) = (x3.toNat : Int) := by rw [hx3, hbk]; simp; omega
          rw [← hx1, ← hx2, ← hx3] at ht
          have HT : Hid ((o ++ ⟨#[92]⟩ ++ ⟨#[x1, x2, x3]⟩).data.toList = toldS (s.data.toList.take (k + 1))) := by
            rw [Hid, HNX.out, ← hfl.out, ht, ByteArray.data_append, ByteArray.data_append, Array.toList_append, Array.toList_append, List.append_assoc]; rfl
          have HZ : Hid ((o ++ ⟨#[92]⟩ ++ ⟨#[x1, x2, x3]⟩).size ≤ 4 * (k + 1)) := by
            rw [Hid, ByteArray.size_append, ByteArray.size_append]
            show o.size + 1 + 3 ≤ _
            omega
          have hcv : ∀ (g' : Nat) (W : World), (∀ j u, [Value.int .u8 (x1.toNat : Int), .int .u8 (x2.toNat : Int), .int .u8 (x3.toNat : Int)][j]? = some u → W.cell? ((⟨g', 0, none⟩ : Addr).add j) = some u) → (convert 56 9 (.slice (some ⟨g', 0, none⟩) 3 3)).run Try.prog W = .ok (.string ⟨#[x1, x2, x3]⟩) W := fun g' W hW => by
            refine run_convert_bytes_back (P := Try.prog) W 56 9 5 ⟨g', 0, none⟩ 3 [x1, x2, x3] Try.underlying56 Try.underlying5 Try.underlying9 (fun j hj => ?_)
            refine hW j _ ?_
            simp only [List.length_cons, List.length_nil] at hj
            rcases (show j = 0 ∨ j = 1 ∨ j = 2 by omega) with rfl | rfl | rfl <;> rfl
          have HCV := Hid.mk (hcv wr.heap.size (wr.alloc (.cells #[.int .u8 (x1.toNat : Int), .int .u8 (x2.toNat : Int), .int .u8 (x3.toNat : Int)] 5)) (fun j u h => cells_new wr _ 5 j u h))
          have hcw := HCV.out
          have hsz := hbl.size
          have hc9 : s[k].toNat < 256 := by rw [hbk]; omega
          have hy1 : x1.toNat < 256 := x1.toNat_lt
          have hy2 : x2.toNat < 256 := x2.toNat_lt
          have hy3 : x3.toNat < 256 := x3.toNat_lt
          have hq : s[k].toNat < 33 ∨ 126 < s[k].toNat := by rw [hbk]; omega
          clear ht hbk h1 hp hpb hx1 hx2 hx3 hcv
          rcases hq with hq | hq
          · go_wp2
            exact ⟨⟨k + 1, _, by omega, by go_num, rfl, HT.out, HZ.out, hbl.alloc hsz _⟩, by simp [intOf]; omega⟩
          · go_wp2
            exact ⟨⟨k + 1, _, by omega, by go_num, rfl, HT.out, HZ.out, hbl.alloc hsz _⟩, by simp [intOf]; omega⟩
    · have hall : s.data.toList.take k = s.data.toList := List.take_of_length_le (by rw [size_list]; omega)
      have HE : Hid (o = ⟨(toldS s.data.toList).toArray⟩) := ba_ext (by rw [hfl.out, hall])
      clear hall
      go_wp2
      go_ret
      exact ⟨by rw [← HE.out]; rfl, hbl⟩


theorem rText_no (s : ByteArray) (hs : s.size ≤ maxLen) (h : ¬ IsName s) (w : World) :
    Calls Try.prog 21 #[.string s] w fun e w' => e = .returned (.tuple #[.string ⟨#[]⟩, .bool false]) ∧ Below w.heap.size w w' := by
  go_enter Try.func21, Try.ntmps21
  go_wp2_with fail
  refine (rLabels_none s hs h _).mono ?_
  rintro e w1 ⟨rfl, hb1⟩
  go_wp2
  go_ret2
  exact ⟨rfl, hb1⟩

theorem rText_root (w : World) :
    Calls Try.prog 21 #[.string (nm [])] w fun e w' => e = .returned (.tuple #[.string ⟨#[46]⟩, .bool true]) ∧ Below w.heap.size w w' := by
  go_enter Try.func21, Try.ntmps21
  go_wp2_with fail
  refine (rLabels_yes [] ⟨by simp, by simp [flat]⟩ _).mono ?_
  rintro e w1 ⟨⟨v, rfl, hv⟩, hb1⟩
  obtain ⟨q, cp, hq⟩ := hv.form
  subst hq
  go_wp2
  go_ret2
  exact ⟨rfl, hb1⟩

set_option maxHeartbeats 2000000 in
theorem rText_go (ls : List (List UInt8)) (ho : OkN ls) (hne : ls ≠ []) (w : World) :
    Calls Try.prog 21 #[.string (nm ls)] w fun e w' => e = .returned (.tuple #[.string ⟨(txt ls).toArray⟩, .bool true]) ∧ Below w.heap.size w w' := by
  have hlen := ho.len
  have hcnt := ho.count
  have hpos := List.length_pos_iff.2 hne
  have hl0 : (((ls.length : Nat) : Int) == 0) = false := by simp; omega
  go_enter Try.func21, Try.ntmps21
  go_wp2_with fail
  refine (rLabels_yes ls ho _).mono ?_
  rintro e w1 ⟨⟨v, rfl, hv⟩, hb1⟩
  obtain ⟨q, cp, hq⟩ := hv.form
  subst hq
  go_wp2
  go_loopw [6, 7] (fun sv i wr => ∃ (k : Nat) (s : ByteArray), k ≤ ls.length ∧ i = .int .i64 k ∧ sv = .string s ∧ Hid (s.data.toList = txt (ls.take k)) ∧ s.size ≤ 253 * k ∧ Below w1.heap.size w1 wr) (fun _ i _ => ls.length - (intOf i).toNat)
  case atStart => exact ⟨0, ⟨#[]⟩, Nat.zero_le _, rfl, rfl, rfl, by decide, Below.refl _ _⟩
  case round =>
    obtain ⟨k, s, hk, rfl, rfl, hfl, hsz, hbl⟩ := hrel
    by_cases hlt : k < ls.length
    · obtain ⟨g, hg, hgq, hcl⟩ : ∃ g, q = some ⟨g, 0, none⟩ ∧ g < w1.heap.size ∧ w1.cell? ⟨g, k, none⟩ = some (strV ls[k]) := by
        rcases hv with ⟨_, h⟩ | ⟨g, cap, hv, hg, hc⟩
        · rw [h] at hlt; simp at hlt
        · cases hv; exact ⟨g, rfl, hg, hc k hlt⟩
      subst hg
      obtain ⟨t, ht1, ht2, ht3⟩ := toBA ls[k]
      have hgd := ho.lab _ (List.getElem_mem hlt)
      have hcx : wr.cell? ⟨g, k, none⟩ = some (.string t) := by rw [← ht1]; exact (hbl.cell (p := ⟨g, k, none⟩) hgq).trans hcl
      have h2 : t.size ≤ 63 := by rw [ht3]; exact hgd.2
      have hgw : g < wr.heap.size := Nat.lt_of_lt_of_le hgq hbl.size
      obtain ⟨u, hu⟩ : ∃ u : ByteArray, (⟨(toldS t.data.toList).toArray⟩ : ByteArray) = u := ⟨_, rfl⟩
      have hus : u.size ≤ 252 := by
        have := toldS_len t.data.toList
        rw [← hu, ba_size]; rw [size_list] at this; omega
      have hSm := shown_in t h2
      rw [hu] at hSm
      have HSm := Hid.mk hSm
      have HT : Hid ((s ++ u ++ ⟨#[46]⟩).data.toList = txt (ls.take (k + 1))) := by
        rw [Hid, List.take_succ_eq_append_getElem hlt, txt_snoc, ← hfl.out, ByteArray.data_append, ByteArray.data_append, Array.toList_append, Array.toList_append, ← hu, ht2, List.append_assoc]
      have HZ : Hid ((s ++ u ++ ⟨#[46]⟩).size ≤ 253 * (k + 1)) := by
        rw [Hid, ByteArray.size_append, ByteArray.size_append]
        show s.size + u.size + 1 ≤ _
        omega
      clear ht1 ht2 ht3 hu hSm hv hcl hgd
      go_wp2_with fail
      refine (HSm.out _).mono ?_
      rintro e w3 ⟨rfl, hb3⟩
      go_wp2
      exact ⟨⟨k + 1, _, by omega, by go_num, rfl, HT.out, HZ.out, bthen hbl hb3⟩, by simp [intOf]; omega⟩
    · have hall : ls.take k = ls := List.take_of_length_le (by omega)
      have HE : Hid (s = ⟨(txt ls).toArray⟩) := ba_ext (by rw [hfl.out, hall])
      clear hall hv
      go_wp2
      go_ret2
      exact ⟨by rw [← HE.out]; rfl, bthen hb1 hbl⟩

end Go.Proofs.Ytpngjmeinlcggaa
