/- cutLabel: the first label that a text tells, and the text behind its dot. -/
import Derived.Test.YtpngjmeinlcggaaTold
import Derived.Test.YtpngjmeinlcggaaDraft
import Derived.Test.YtpngjmeinlcggaaUnder
namespace Go.Proofs.Ytpngjmeinlcggaa
set_option linter.unusedVariables false
open Go.RowKit

/-- what is told behind acc, and the text that is left. -/
def cutF : Nat → List UInt8 → List UInt8 → Option (List UInt8 × List UInt8)
  | 0, _, _ => none
  | n + 1, acc, l => match l with
    | [] => some (acc, [])
    | c :: t => if c.toNat = 46 then some (acc, c :: t) else
      if (tb (c :: t)).2 = 0 then none else cutF n (if acc.length ≤ 63 then acc ++ [(tb (c :: t)).1] else acc) ((c :: t).drop (tb (c :: t)).2)

/-- the first label of a text, the text behind its dot; none: the text is of no right form there. -/
def cutB (l : List UInt8) : Option (List UInt8 × List UInt8) := match l with
  | [] => none
  | c :: t => if c.toNat = 46 then none else (cutF ((c :: t).length + 1) [] (c :: t)).map fun r => (r.1, trimD r.2)

def cutV : Option (List UInt8 × List UInt8) → Value
  | some r => .tuple #[.string ⟨r.1.toArray⟩, .string ⟨r.2.toArray⟩, .bool true]
  | none => .tuple #[.string ⟨#[]⟩, .string ⟨#[]⟩, .bool false]

theorem tb_size (l : List UInt8) : (tb l).2 ≤ l.length := by
  unfold tb
  split
  · simp
  · split
    · split <;> simp
    · split
      · simp
      · split
        · simp
        · split
          · split <;> simp
          · simp

theorem extract_drop (s : ByteArray) (k : Nat) : (s.extract k s.size).data.toList = s.data.toList.drop k := by
  rw [Lib.extract_data]
  exact List.take_of_length_le (by rw [List.length_drop, size_list]; exact Nat.le_refl _)

theorem row_slice {W : World} {n₀ n : Nat} {v : Value} {xs : List Value} (h : W.ownsRow n₀ 5 1 v n xs) : ∃ q cap, v = .slice q n cap := by
  rcases h.2 with ⟨rfl, rfl⟩ | ⟨g, cap, cur, hv, _⟩
  · exact ⟨none, 0, rfl⟩
  · exact ⟨_, _, hv⟩

theorem get_drop (s : ByteArray) (k : Nat) (h : k < s.size) : s.data.toList.drop k = s[k] :: s.data.toList.drop (k + 1) := by
  rw [List.drop_eq_getElem_cons (by rw [size_list]; exact h)]; rfl

set_option maxHeartbeats 1000000 in
theorem cutLabel_in (s : ByteArray) (hm : s.size ≤ maxLen) (h : 0 < s.size) (w : World) :
    Calls Try.prog 65 #[.string s] w fun e w' => e = .returned (cutV (cutB s.data.toList)) ∧ Below w.heap.size w w' := by
  obtain ⟨i0, hi, hz0, hz1, hz2⟩ := info_parts info5
  have hmm := hm
  have HM := Hid.mk hmm
  clear hmm
  unfold maxLen at hm
  obtain ⟨R, hR⟩ : ∃ R, cutF (s.data.toList.length + 1) [] s.data.toList = R := ⟨_, rfl⟩
  have HR := Hid.mk hR
  clear hR
  go_enter Try.func65, Try.ntmps65
  go_wp2
  go_loopw [5, 6] (fun v i wr => ∃ (k n : Nat) (acc : List UInt8), i = .int .i64 k ∧ k ≤ s.size ∧ wr.ownsRow w.heap.size 5 1 v acc.length (Lib.byteCells acc) ∧ acc.length ≤ 64 ∧ (k = 0 ↔ acc = []) ∧ s.size - k < n ∧ Hid (cutF n acc (s.data.toList.drop k) = R) ∧ Hid (0 < k → ∀ c, s.data.toList.head? = some c → c.toNat ≠ 46) ∧ Below w.heap.size w wr) (fun _ i _ => s.size - (intOf i).toNat)
  case atStart =>
    exact ⟨0, s.size + 1, [], rfl, Nat.zero_le _, World.ownsRow_nil .., by simp, by simp, by omega, by rw [List.drop_zero]; exact HR, fun h => absurd h (by omega), Below.refl _ _⟩
  case round =>
    obtain ⟨k, n, acc, rfl, hk, hrow, hacc, hk0, hfu, hF, HH, hbl⟩ := hrel
    have HK0 := Hid.mk hk0
    clear hk0
    obtain ⟨q, cap, rfl⟩ := row_slice hrow
    obtain ⟨n, rfl⟩ : ∃ m, n = m + 1 := ⟨n - 1, by omega⟩
    by_cases hlt : k < s.size
    · by_cases hdot : s[k].toNat = 46
      · have hdb : ((s[k].toNat : Int) != 46) = false := by rw [hdot]; rfl
        have hRv : Hid (R = some (acc, s.data.toList.drop k)) := by
          have := hF.out
          rw [get_drop s k hlt, cutF, if_pos hdot] at this
          rw [get_drop s k hlt]; exact this.symm
        have hd0 : Hid (k = 0 → s.data.toList.head? = some s[k]) := by
          intro e; subst e
          have := get_drop s 0 hlt
          rw [List.drop_zero] at this
          rw [this]; rfl
        by_cases hk00 : k = 0
        · subst hk00
          have hfin : Hid (cutB s.data.toList = none) := by
            have := hd0.out rfl
            cases hl : s.data.toList with
            | nil => rfl
            | cons c t =>
              rw [hl] at this
              simp at this
              show (if c.toNat = 46 then none else _) = none
              rw [if_pos (by rw [this]; exact hdot)]
          clear hF hRv hdot hd0 HH
          go_wp2
          go_ret3
          exact ⟨by rw [hfin.out]; rfl, hbl⟩
        · have hk0b : (((k : Nat) : Int) == 0) = false := by simp; omega
          have hne : acc ≠ [] := fun e => hk00 (HK0.out.2 e)
          have hfin : Hid (cutB s.data.toList = some (acc, trimD (s.data.toList.drop k))) := by
            cases hl : s.data.toList with
            | nil => rw [← size_list, hl] at h; simp at h
            | cons c t =>
              show (if c.toNat = 46 then none else (cutF ((c :: t).length + 1) [] (c :: t)).map fun r => (r.1, trimD r.2)) = _
              rw [if_neg (HH.out (by omega) c (by rw [hl]; rfl)), ← hl, HR.out, hRv.out]
              rfl
          obtain ⟨g, hq⟩ : ∃ g, q = some ⟨g, 0, none⟩ := by
            obtain ⟨g, cap', hv⟩ := row_form hrow (List.length_pos_iff.2 hne)
            cases hv
            exact ⟨g, rfl⟩
          subst hq
          have hcv : ∀ m, (convert 56 9 (.slice (some ⟨g, 0, none⟩) acc.length cap)).run Try.prog (wr.drewN m) = .ok (.string ⟨acc.toArray⟩) (wr.drewN m) := fun m => by
            refine run_convert_bytes_back (P := Try.prog) (wr.drewN m) 56 9 5 ⟨g, 0, none⟩ cap acc Try.underlying56 Try.underlying5 Try.underlying9 (fun j hj => ?_)
            rcases hrow.2 with ⟨h', _⟩ | ⟨g', cap', cur, hv, _, hg, _, _, _, ht⟩
            · cases h'
            · cases hv
              exact Lib.cells_of_row (w := wr.drewN m) hg acc.length j _ (by rw [Nat.mul_one] at ht; rw [ht]; simp [Lib.byteCells, hj])
          have hlen : (s.extract k s.size).size ≤ maxLen := by rw [ByteArray.size_extract]; unfold maxLen; omega
          have hT := trim_in (s.extract k s.size) hlen
          rw [extract_drop] at hT
          have HT := Hid.mk hT
          clear hT hF hRv HH hne hrow hlen
          go_wp2
          go_quiet ((go_at_call 71; exact Calls.quiet_of_same (HT.out _)))
          go_wp2
          go_ret3
          exact ⟨by rw [hfin.out]; rfl, below_drewN hbl _⟩
      · have hdb : ((s[k].toNat : Int) != 46) = true := by rw [bne_iff_ne]; omega
        have hd := get_drop s k hlt
        have hlen : (s.extract k s.size).size ≤ maxLen := by rw [ByteArray.size_extract]; unfold maxLen; omega
        have hpos : 0 < (s.extract k s.size).size := by rw [ByteArray.size_extract]; omega
        have htb := tb_size (s.data.toList.drop k)
        have hfs : cutF (n + 1) acc (s.data.toList.drop k) = if (tb (s.data.toList.drop k)).2 = 0 then none else cutF n (if acc.length ≤ 63 then acc ++ [(tb (s.data.toList.drop k)).1] else acc) ((s.data.toList.drop k).drop (tb (s.data.toList.drop k)).2) := by
          rw [hd, cutF, if_neg hdot]
        have HFS := Hid.mk (hfs.symm.trans hF.out)
        have HD0 : Hid (k = 0 → ∀ c, s.data.toList.head? = some c → c.toNat ≠ 46) := by
          intro e c hc
          subst e
          rw [List.drop_zero] at hd
          rw [hd] at hc
          simp at hc
          subst hc; exact hdot
        clear hfs hd hF hdot
        have hE := told_in (s.extract k s.size) hlen hpos
        rw [extract_drop] at hE
        have HE := Hid.mk hE
        rw [List.length_drop, size_list] at htb
        clear hE hlen hpos
        have hdd : ∀ m, (s.data.toList.drop k).drop m = s.data.toList.drop (k + m) := fun m => by rw [List.drop_drop]
        have HDD := Hid.mk hdd
        clear hdd
        generalize hr : tb (s.data.toList.drop k) = r at HFS HE htb
        obtain ⟨rb, rs⟩ := r
        clear hr
        dsimp only at HFS HE htb
        have HHn : Hid (0 < k + rs → ∀ c, s.data.toList.head? = some c → c.toNat ≠ 46) := by
          intro _ c hc
          by_cases e : 0 < k
          · exact HH.out e c hc
          · obtain rfl : k = 0 := by omega
            exact HD0.out rfl c hc
        by_cases hz : rs = 0
        · have hRn : Hid (R = none) := by have := HFS.out; rw [if_pos hz] at this; exact this.symm
          have hfin : Hid (cutB s.data.toList = none) := by
            cases hl : s.data.toList with
            | nil => rfl
            | cons c t =>
              show (if c.toNat = 46 then none else (cutF ((c :: t).length + 1) [] (c :: t)).map fun r => (r.1, trimD r.2)) = none
              rw [← hl, HR.out, hRn.out]
              simp
          clear HFS
          subst hz
          go_wp2_with fail
          refine (HE.out _).mono ?_
          rintro e w1 ⟨rfl, m, rfl⟩
          go_wp2
          go_ret3
          exact ⟨by rw [hfin.out]; rfl, below_drewN hbl m⟩
        · have hzb : (((rs : Nat) : Int) == 0) = false := by simp; omega
          have hks : k + rs ≤ s.size := by omega
          have hrs : 0 < rs := by omega
          by_cases ha : acc.length ≤ 63
          · have HN : Hid (cutF n (acc ++ [rb]) (s.data.toList.drop (k + rs)) = R) := by
              have := HFS.out
              rw [if_neg hz, if_pos ha, HDD.out] at this; exact this
            have hal : (acc ++ [rb]).length = acc.length + 1 := by simp
            have HAL := Hid.mk hal
            clear HFS hal hz
            go_wp2_with fail
            refine (HE.out _).mono ?_
            rintro e w1 ⟨rfl, m, rfl⟩
            have hrow' : (wr.drewN m).ownsRow w.heap.size 5 1 (.slice q acc.length cap) acc.length (Lib.byteCells acc) := hrow
            have hbl' := below_drewN hbl m
            have hsz' := hbl.size
            go_wp2_with (at_builtin; refine wpList_append_own _ rfl _ _ 56 rfl w.heap.size 5 i0 (.int .u8 0) 1 1 Try.underlying56 hi hz0 hz1 hz2 rfl (by decide) _ _ _ rfl (row_alloc hrow' _) ⟨wr.heap.size, 0, none⟩ 1 1 [.int .u8 (rb.toNat : Int)] rfl rfl (cell_one_new _ _ _) (by simp [Value.oneCell']) (by unfold maxLen; omega) (by omega) (by simp; omega) ?_; intro v1 w1 hown1 hgrow1 _)
            go_roundw
            case rel =>
              exact ⟨k + rs, n, acc ++ [rb], by go_num, hks, by rw [HAL.out, byteCells_snoc]; exact hown1, by rw [HAL.out]; omega, by constructor; (intro e; omega); (intro e; simp at e), by omega, HN, HHn, (hbl'.alloc hbl'.size _).grown hgrow1 (by simp; omega) (own_base hrow')⟩
            case measure => simp [intOf]; omega
          · have HN : Hid (cutF n acc (s.data.toList.drop (k + rs)) = R) := by
              have := HFS.out
              rw [if_neg hz, if_neg ha, HDD.out] at this; exact this
            clear HFS hz
            go_wp2_with fail
            refine (HE.out _).mono ?_
            rintro e w1 ⟨rfl, m, rfl⟩
            have hrow' : (wr.drewN m).ownsRow w.heap.size 5 1 (.slice q acc.length cap) acc.length (Lib.byteCells acc) := hrow
            have hbl' := below_drewN hbl m
            go_wp2
            go_roundw
            case rel =>
              exact ⟨k + rs, n, acc, by go_num, hks, hrow', hacc, by constructor; (intro e; omega); (intro e; rw [e] at ha; simp at ha), by omega, HN, HHn, hbl'⟩
            case measure => simp [intOf]; omega
    · have hk00 : ¬ k = 0 := by omega
      have hRv : Hid (R = some (acc, s.data.toList.drop k)) := by
        have := hF.out
        rw [List.drop_of_length_le (by rw [size_list]; omega)] at this ⊢
        exact this.symm
      have hk0b : (((k : Nat) : Int) == 0) = false := by simp; omega
      have hne : acc ≠ [] := fun e => hk00 (HK0.out.2 e)
      have hfin : Hid (cutB s.data.toList = some (acc, trimD (s.data.toList.drop k))) := by
        cases hl : s.data.toList with
        | nil => rw [← size_list, hl] at h; simp at h
        | cons c t =>
          show (if c.toNat = 46 then none else (cutF ((c :: t).length + 1) [] (c :: t)).map fun r => (r.1, trimD r.2)) = _
          rw [if_neg (HH.out (by omega) c (by rw [hl]; rfl)), ← hl, HR.out, hRv.out]
          rfl
      obtain ⟨g, hq⟩ : ∃ g, q = some ⟨g, 0, none⟩ := by
        obtain ⟨g, cap', hv⟩ := row_form hrow (List.length_pos_iff.2 hne)
        cases hv
        exact ⟨g, rfl⟩
      subst hq
      have hcv : ∀ m, (convert 56 9 (.slice (some ⟨g, 0, none⟩) acc.length cap)).run Try.prog (wr.drewN m) = .ok (.string ⟨acc.toArray⟩) (wr.drewN m) := fun m => by
        refine run_convert_bytes_back (P := Try.prog) (wr.drewN m) 56 9 5 ⟨g, 0, none⟩ cap acc Try.underlying56 Try.underlying5 Try.underlying9 (fun j hj => ?_)
        rcases hrow.2 with ⟨h', _⟩ | ⟨g', cap', cur, hv, _, hg, _, _, _, ht⟩
        · cases h'
        · cases hv
          exact Lib.cells_of_row (w := wr.drewN m) hg acc.length j _ (by rw [Nat.mul_one] at ht; rw [ht]; simp [Lib.byteCells, hj])
      have hlen : (s.extract k s.size).size ≤ maxLen := by rw [ByteArray.size_extract]; unfold maxLen; omega
      have hT := trim_in (s.extract k s.size) hlen
      rw [extract_drop] at hT
      have HT := Hid.mk hT
      clear hT hF hRv HH hne hrow hlen
      go_wp2
      go_quiet ((go_at_call 71; exact Calls.quiet_of_same (HT.out _)))
      go_wp2
      go_ret3
      exact ⟨by rw [hfin.out]; rfl, below_drewN hbl _⟩
end Go.Proofs.Ytpngjmeinlcggaa
