/- The document's own Of (guidepostref01). -/
import Derived.Test.YtpngjmeinlcggaaRefLabels
import Derived.Test.YtpngjmeinlcggaaOfLabels
namespace Go.Proofs.Ytpngjmeinlcggaa
set_option linter.unusedVariables false
open Go.RowKit

def goodL (l : List UInt8) : Prop := 1 ≤ l.length ∧ l.length ≤ 63

theorem toBA (l : List UInt8) : ∃ s : ByteArray, strV l = .string s ∧ s.data.toList = l ∧ s.size = l.length := ⟨⟨l.toArray⟩, rfl, rfl, rfl⟩

set_option maxHeartbeats 1000000 in
theorem rOf_bad (b off cap : Nat) (ls : List (List UInt8)) (w : World) (hn : ls.length ≤ maxLen) (hl : ∀ l ∈ ls, l.length ≤ maxLen)
    (hc : ∀ j (h : j < ls.length), w.cell? ⟨b, off + j, none⟩ = some (strV ls[j])) (hbad : ∃ l ∈ ls, ¬ goodL l) :
    Calls Try.prog 12 #[.slice (some ⟨b, off, none⟩) ls.length cap] w fun e w' => e = .returned (resV ([], 2)) ∧ Below w.heap.size w w' := by
  unfold maxLen at hn
  go_enter Try.func12, Try.ntmps12
  go_wp2
  go_loop [6] (fun i => ∃ k : Nat, k ≤ ls.length ∧ i = .int .i64 k ∧ ∀ l ∈ ls.take k, goodL l) (fun i => ls.length - (intOf i).toNat)
  case atStart => exact ⟨0, Nat.zero_le _, rfl, by simp⟩
  case round =>
    obtain ⟨k, hk, rfl, hgood⟩ := hrel
    by_cases hlt : k < ls.length
    · have hc' := hc k hlt
      have hm := hl _ (List.getElem_mem hlt)
      unfold maxLen at hm
      have hgn : goodL ls[k] → ∀ l ∈ ls.take (k + 1), goodL l := by
        intro hg l hl
        rw [List.take_succ_eq_append_getElem hlt] at hl
        rcases List.mem_append.1 hl with h | h
        · exact hgood l h
        · simp at h; subst h; exact hg
      have HG := Hid.mk hgn
      obtain ⟨s, hs1, hs2, hs3⟩ := toBA ls[k]
      rw [hs1] at hc'
      have HZ : Hid (goodL ls[k] ↔ (1 ≤ s.size ∧ s.size ≤ 63)) := by rw [Hid, goodL, hs3]
      have hms : s.size ≤ 9223372036854775807 := by omega
      clear hgood hbad hl hm hs1 hs2 hs3 hgn hc
      by_cases h1 : 1 ≤ s.size
      · by_cases h2 : s.size ≤ 63
        · go_wp2
          go_round
          case rel => exact ⟨k + 1, by omega, by go_num, HG.out (HZ.out.2 ⟨h1, h2⟩)⟩
          case measure => simp [intOf]; omega
        · go_wp2
          go_ret2
          exact ⟨rfl, Below.refl _ _⟩
      · go_wp2
        go_ret2
        exact ⟨rfl, Below.refl _ _⟩
    · exfalso
      obtain ⟨l, hl', hb⟩ := hbad
      rw [List.take_of_length_le (by omega)] at hgood
      exact hb (hgood l hl')

set_option maxRecDepth 100000 in
set_option maxHeartbeats 4000000 in
theorem rOf_good (b off cap : Nat) (ls : List (List UInt8)) (w : World) (hb : b < w.heap.size) (hn : ls.length ≤ maxLen)
    (hc : ∀ j (h : j < ls.length), w.cell? ⟨b, off + j, none⟩ = some (strV ls[j])) (hgood : ∀ l ∈ ls, goodL l) :
    Calls Try.prog 12 #[.slice (some ⟨b, off, none⟩) ls.length cap] w fun e w' => e = .returned (resV (ofR ls)) ∧ Below w.heap.size w w' := by
  unfold maxLen at hn
  go_enter Try.func12, Try.ntmps12
  go_wp2
  go_loop [6] (fun i => ∃ k : Nat, k ≤ ls.length ∧ i = .int .i64 k) (fun i => ls.length - (intOf i).toNat)
  case atStart => exact ⟨0, Nat.zero_le _, rfl⟩
  case round =>
    obtain ⟨k, hk, rfl⟩ := hrel
    by_cases hlt : k < ls.length
    · have hc' := hc k hlt
      have hg := hgood _ (List.getElem_mem hlt)
      obtain ⟨s, hs1, hs2, hs3⟩ := toBA ls[k]
      rw [hs1] at hc'
      have h1 : 1 ≤ s.size := by rw [hs3]; exact hg.1
      have h2 : s.size ≤ 63 := by rw [hs3]; exact hg.2
      clear hgood hc hs1 hs2 hs3 hg
      go_wp2
      go_round
      case rel => exact ⟨k + 1, by omega, by go_num⟩
      case measure => simp [intOf]; omega
    · go_wp2
      go_loopw [4, 5, 7] (fun sv lv i wr => ∃ (k : Nat) (s : ByteArray), k ≤ ls.length ∧ i = .int .i64 k ∧ sv = .string s ∧ Hid (s.data.toList = flat (ls.take k)) ∧ lv = .bool (decide (254 < s.size)) ∧ s.size ≤ 318 ∧ Below w.heap.size w wr) (fun _ _ i _ => ls.length - (intOf i).toNat)
      case atStart => exact ⟨0, ⟨#[]⟩, Nat.zero_le _, rfl, rfl, rfl, by rfl, by decide, Below.refl _ _⟩
      case round =>
        obtain ⟨k2, s, hk2, rfl, rfl, hfl, rfl, hsz, hbl⟩ := hrel
        by_cases hlong : 254 < s.size
        · have hd : decide (254 < s.size) = true := by simp [hlong]
          rw [hd]
          have hR : ofR ls = ([], 3) := by
            have hf := hfl.out
            have hle : (flat (ls.take k2)).length ≤ (flat ls).length := by
              have : flat ls = flat (ls.take k2) ++ flat (ls.drop k2) := by rw [← flat_append, List.take_append_drop]
              rw [this, List.length_append]; omega
            have hz : ¬ (nm ls).size ≤ 255 := by rw [nm_size]; rw [← hf, size_list] at hle; omega
            rw [ofR_right hgood, if_neg hz]
          have HR := Hid.mk hR
          clear hR hc hgood
          by_cases hlt2 : k2 < ls.length
          · go_wp2
            go_ret2
            exact ⟨by rw [HR.out]; rfl, hbl⟩
          · go_wp2
            go_ret2
            exact ⟨by rw [HR.out]; rfl, hbl⟩
        · have hd : decide (254 < s.size) = false := by simp [hlong]
          rw [hd]
          by_cases hlt2 : k2 < ls.length
          · obtain ⟨t, ht1, ht2, ht3⟩ := toBA ls[k2]
            have hg := hgood _ (List.getElem_mem hlt2)
            have hc' : wr.cell? ⟨b, off + k2, none⟩ = some (.string t) := by rw [← ht1]; exact (hbl.cell (p := ⟨b, off + k2, none⟩) hb).trans (hc k2 hlt2)
            have h1 : 1 ≤ t.size := by rw [ht3]; exact hg.1
            have h2 : t.size ≤ 63 := by rw [ht3]; exact hg.2
            have hbw : b < wr.heap.size := Nat.lt_of_lt_of_le hb hbl.size
            have hcv : ∀ W : World, W.cell? ⟨wr.heap.size, 0, none⟩ = some (.int .u8 (t.size : Int)) → (convert 56 9 (.slice (some ⟨wr.heap.size, 0, none⟩) 1 1)).run Try.prog W = .ok (.string ⟨#[UInt8.ofNat t.size]⟩) W := fun W hW => by
              have := run_convert_bytes_back (P := Try.prog) W 56 9 5 ⟨wr.heap.size, 0, none⟩ 1 [UInt8.ofNat t.size] Try.underlying56 Try.underlying5 Try.underlying9 (fun j hj => by
                have e : j = 0 := by simpa using hj
                subst e
                rw [add_at, hW]
                simp; omega)
              simpa using this
            have HT : Hid (flat (ls.take (k2 + 1)) = flat (ls.take k2) ++ (UInt8.ofNat t.size :: t.data.toList)) := by
              rw [Hid, List.take_succ_eq_append_getElem hlt2, flat_snoc, ht2, ht3]
            have hcz : (s ++ ⟨#[UInt8.ofNat t.size]⟩ ++ t).size = s.size + 1 + t.size := by
              rw [ByteArray.size_append, ByteArray.size_append]; rfl
            have HCZ := Hid.mk hcz
            clear hc hgood ht1 ht2 ht3 hcz
            go_wp2
            go_region
            all_goals go_wp2
            all_goals
              refine ⟨⟨k2 + 1, s ++ ⟨#[UInt8.ofNat t.size]⟩ ++ t, by omega, by go_num, rfl, ?_, ?_, ?_, (hbl.alloc hbl.size _).drew⟩, by simp [intOf]; omega⟩
              · rw [Hid, HT.out, ← hfl.out, ByteArray.data_append, ByteArray.data_append, Array.toList_append, Array.toList_append, List.append_assoc]; rfl
              · congr 1; rw [HCZ.out, decide_eq_decide]; omega
              · rw [HCZ.out]; omega
          · have hall : ls.take k2 = ls := List.take_of_length_le (by omega)
            have hR : ofR ls = (s.data.toList ++ [0], 0) := by
              have hf := hfl.out
              rw [hall] at hf
              have hz : (nm ls).size ≤ 255 := by rw [nm_size, ← hf, size_list]; omega
              rw [ofR_right hgood, if_pos hz, hf]; rfl
            have hcat : s ++ (⟨#[0]⟩ : ByteArray) = ⟨(s.data.toList ++ [0]).toArray⟩ := by
              apply ba_ext
              rw [ByteArray.data_append, Array.toList_append]
            have HR := Hid.mk hR
            have HC := Hid.mk hcat
            clear hR hcat hall hc hgood
            go_wp2
            go_ret2
            exact ⟨by rw [HR.out, resV, ← HC.out]; rfl, hbl⟩
set_option maxHeartbeats 1000000 in
theorem rOf_nil (w : World) :
    Calls Try.prog 12 #[.slice none 0 0] w fun e w' => e = .returned (resV (ofR [])) ∧ Below w.heap.size w w' := by
  go_enter Try.func12, Try.ntmps12
  go_wp2
  go_loop [6] (fun i => i = .int .i64 0) (fun i => 0)
  case atStart => rfl
  case round =>
    obtain rfl := hrel
    go_wp2
    go_loopw [4, 5, 7] (fun sv lv i wr => sv = .string ⟨#[]⟩ ∧ lv = .bool false ∧ i = .int .i64 0 ∧ wr = w) (fun _ _ i _ => 0)
    case atStart => exact ⟨rfl, rfl, rfl, rfl⟩
    case round =>
      obtain ⟨rfl, rfl, rfl, rfl⟩ := hrel
      go_wp2
      go_ret2
      exact ⟨rfl, Below.refl _ _⟩

theorem rOf_in (v : Value) (ls : List (List UInt8)) (w : World) (h : Strs w.heap.size w v ls) (hn : ls.length ≤ maxLen) (hgood : ∀ l ∈ ls, goodL l) :
    Calls Try.prog 12 #[v] w fun e w' => e = .returned (resV (ofR ls)) ∧ Below w.heap.size w w' := by
  rcases h with ⟨rfl, rfl⟩ | ⟨g, cap, rfl, hg, hc⟩
  · exact rOf_nil w
  · exact rOf_good g 0 cap ls w hg hn (fun j hj => by rw [Nat.zero_add]; exact hc j hj) hgood

end Go.Proofs.Ytpngjmeinlcggaa
