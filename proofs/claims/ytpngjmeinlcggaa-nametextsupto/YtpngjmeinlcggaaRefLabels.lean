/- The document's own Labels and Right (guidepostref01). -/
import Derived.Test.YtpngjmeinlcggaaLabelsOf
import Derived.Test.YtpngjmeinlcggaaUnder
namespace Go.Proofs.Ytpngjmeinlcggaa
set_option linter.unusedVariables false
open Go.RowKit

theorem name_next {ls p : List (List UInt8)} (ho : OkN ls) (h : Seq (nm ls) p) : (flat p).length < (nm ls).size ∧
    ∀ hlt : (flat p).length < (nm ls).size, (p = ls ∧ (nm ls)[(flat p).length] = 0 ∧ (flat p).length + 1 = (nm ls).size) ∨
      (∃ m q, ls = p ++ m :: q ∧ (nm ls)[(flat p).length].toNat = m.length ∧ 1 ≤ m.length ∧ m.length ≤ 63 ∧ (flat p).length + 1 + m.length < (nm ls).size) := by
  obtain ⟨q, hq⟩ := h.of_name ho
  have hfl : flat ls = flat p ++ flat q := by rw [← hq, flat_append]
  refine ⟨by rw [nm_size, hfl, List.length_append]; omega, fun hlt => ?_⟩
  cases q with
  | nil =>
    left
    rw [List.append_nil] at hq
    subst hq
    exact ⟨rfl, nm_get_end p hlt, by rw [nm_size]⟩
  | cons m q =>
    right
    have hm := ho.lab m (by rw [← hq]; simp)
    have hc : (nm ls)[(flat p).length] = UInt8.ofNat m.length := by
      rw [← getElem_list _ _ hlt]
      simp [nm_list, nmL, hfl, flat]
    refine ⟨m, q, hq.symm, ?_, hm.1, hm.2, ?_⟩
    · rw [hc]; simp; omega
    · rw [nm_size, hfl, List.length_append]; simp only [flat, List.length_cons, List.length_append]; omega

theorem rLabels_long (s : ByteArray) (hm : s.size ≤ maxLen) (h : 255 < s.size) (w : World) :
    Calls Try.prog 10 #[.string s] w fun e w' => e = .returned (.tuple #[.slice none 0 0, .bool false]) ∧ Below w.heap.size w w' := by
  unfold maxLen at hm
  go_enter Try.func10, Try.ntmps10
  go_wp2
  go_ret2
  exact ⟨rfl, Below.refl _ _⟩

theorem strsV_snoc (ls : List (List UInt8)) (s : ByteArray) : strsV (ls ++ [s.data.toList]) = strsV ls ++ [.string s] := by simp [strsV, strV_of]

theorem rowBase {W : World} {n₀ n : Nat} {e : TypeId} {v : Value} {xs : List Value} (h : W.ownsRow n₀ e 1 v n xs) : ∀ k, v.ownBlock = some k → n₀ ≤ k := by
  intro k e
  rcases h.2 with ⟨rfl, _⟩ | ⟨g, cap, cur, rfl, hb, _⟩
  · simp [Value.ownBlock] at e
  · obtain rfl : g = k := by simpa [Value.ownBlock] using e
    exact hb

/-- how the loop of Labels stands. -/
def RefRel (s : ByteArray) (n₀ : Nat) (w : World) (v i : Value) (wr : World) : Prop :=
  ∃ (k : Nat) (p : List (List UInt8)), i = .int .i64 k ∧ Hid (k = (flat p).length) ∧ k ≤ s.size ∧ Seq s p ∧ (∀ l ∈ p, l.length ≤ 63) ∧ wr.ownsRow n₀ 9 1 v p.length (strsV p) ∧ p.length ≤ 127 ∧ Below n₀ w wr

theorem seq_count {s : ByteArray} {p : List (List UInt8)} (h : Seq s p) (hs : s.size ≤ 255) : p.length ≤ 127 := by
  have h1 := flat_count p (fun l hl => (h.lab l hl).1)
  have h2 := h.le
  omega

set_option maxHeartbeats 2000000 in
theorem rLabels_no (s : ByteArray) (h : s.size ≤ 255) (hn : ¬ IsName s) (w : World) :
    Calls Try.prog 10 #[.string s] w fun e w' => e = .returned (.tuple #[.slice none 0 0, .bool false]) ∧ Below w.heap.size w w' := by
  obtain ⟨i0, hi, hz0, hz1, hz2⟩ := info_parts info9
  have hb255 : decide (255 < (s.size : Int)) = false := by simp; omega
  go_enter Try.func10, Try.ntmps10
  go_wp2
  go_loopw [4, 5] (fun v i wr => RefRel s w.heap.size w v i wr) (fun _ i _ => s.size - (intOf i).toNat)
  case atStart => exact ⟨0, [], rfl, rfl, Nat.zero_le _, Seq.nil s, by simp, World.ownsRow_nil .., by simp, Below.refl _ _⟩
  case round =>
    obtain ⟨k, p, rfl, hk, hle, hsq, h63, hrow, hct, hbl⟩ := hrel
    have hsize := hbl.size
    by_cases hlt : k < s.size
    · have hu := s[k].toNat_lt
      by_cases hz : s[k].toNat = 0
      · have hzb : ((s[k].toNat : Int) == 0) = true := by rw [hz]; rfl
        have hne : ((k : Int) == (s.size : Int) - 1) = false := by
          rw [beq_eq_false_iff_ne]
          intro e
          refine hn ⟨p, (hsq.is_name h63 h ?_ (fun l hl => (hsq.lab l hl).1))⟩
          have e2 : s.data.toList = s.data.toList.take k ++ s.data.toList.drop k := (List.take_append_drop k _).symm
          have e3 : s.data.toList.take k = flat p := by
            have := List.prefix_iff_eq_take.1 hsq.pre; rw [hk.out]; exact this.symm
          have e4 : s.data.toList.drop k = [s[k]] := by
            rw [List.drop_eq_getElem_cons (by rw [size_list]; exact hlt), List.drop_of_length_le (by rw [size_list]; omega)]; rfl
          have e5 : s[k] = 0 := UInt8.toNat_inj.1 (by rw [hz]; rfl)
          rw [e2, e3, e4, e5]
        clear hz hk
        go_wp2
        go_ret2
        exact ⟨rfl, hbl⟩
      · have hzb : ((s[k].toNat : Int) == 0) = false := by rw [beq_eq_false_iff_ne]; omega
        by_cases hbig : 63 < s[k].toNat
        · clear hk
          go_wp2
          go_ret2
          exact ⟨rfl, hbl⟩
        · by_cases hfit : k + 1 + s[k].toNat ≤ s.size
          · have hne0 : s[k] ≠ 0 := fun e => hz (by rw [e]; rfl)
            have HS := Hid.mk (Seq.snoc hsq hk.out hlt hne0 hfit)
            have HL := Hid.mk (Seq.snoc_len hk.out hlt hfit)
            have hsx : (s.extract (k + 1) (k + 1 + s[k].toNat)).size = s[k].toNat := HS.out.2
            have HX := Hid.mk hsx
            clear hne0 hsx hk
            go_wp2_with (at_builtin; refine wpList_append_own _ rfl _ _ 22 rfl w.heap.size 9 i0 (.string ⟨#[]⟩) 1 16 Try.underlying22 hi hz0 hz1 hz2 rfl (by decide) _ _ _ rfl (hrow.alloc _) ⟨wr.heap.size, 0, none⟩ 1 1 [.string (s.extract (k + 1) (k + 1 + s[k].toNat))] rfl rfl (cell_one_new _ _ _) (by simp [Value.oneCell']) (by unfold maxLen; omega) (by omega) (by simp; omega) ?_; intro v1 w1 hown1 hgrow1 _)
            go_roundw
            case rel =>
              refine ⟨k + 1 + s[k].toNat, p ++ [(s.extract (k + 1) (k + 1 + s[k].toNat)).data.toList], by go_num, HL.out.symm, hfit, HS.out.1, ?_, ?_, seq_count HS.out.1 h, ?_⟩
              · intro l hl
                rcases List.mem_append.1 hl with h' | h'
                · exact h63 l h'
                · simp only [List.mem_singleton] at h'; subst h'; rw [size_list, HX.out]; omega
              · rw [List.length_append, strsV_snoc]; exact hown1
              · exact (hbl.alloc hsize _).grown hgrow1 (by simp; omega) (rowBase hrow)
            case measure => simp [intOf]; omega
          · have hfit' : s.size < k + 1 + s[k].toNat := by omega
            have hbig' : s[k].toNat ≤ 63 := by omega
            clear hfit hbig hk
            go_wp2
            go_ret2
            exact ⟨rfl, hbl⟩
    · clear hk
      go_wp2
      go_ret2
      exact ⟨rfl, hbl⟩

set_option maxHeartbeats 2000000 in
theorem rLabels_own (ls : List (List UInt8)) (ho : OkN ls) (w : World) :
    Calls Try.prog 10 #[.string (nm ls)] w fun e w' => (∃ v, e = .returned (.tuple #[v, .bool true]) ∧ w'.ownsRow w.heap.size 9 1 v ls.length (strsV ls)) ∧ Below w.heap.size w w' := by
  have h : (nm ls).size ≤ 255 := by rw [nm_size]; have := ho.len; omega
  obtain ⟨s, hs⟩ : ∃ s, nm ls = s := ⟨_, rfl⟩
  have hnx := fun p => name_next (p := p) ho
  rw [hs] at h hnx ⊢
  have HNX := Hid.mk hnx
  clear hnx
  obtain ⟨i0, hi, hz0, hz1, hz2⟩ := info_parts info9
  have hb255 : decide (255 < (s.size : Int)) = false := by simp; omega
  go_enter Try.func10, Try.ntmps10
  go_wp2
  go_loopw [4, 5] (fun v i wr => RefRel s w.heap.size w v i wr) (fun _ i _ => s.size - (intOf i).toNat)
  case atStart => exact ⟨0, [], rfl, rfl, Nat.zero_le _, Seq.nil s, by simp, World.ownsRow_nil .., by simp, Below.refl _ _⟩
  case round =>
    obtain ⟨k, p, rfl, hk, hle, hsq, h63, hrow, hct, hbl⟩ := hrel
    have hsize := hbl.size
    obtain ⟨hlt, hcase⟩ := HNX.out p hsq
    have hc' := hcase hlt
    have hkk := hk.out
    have hlt' : k < s.size := by rw [hkk]; exact hlt
    have hge : s[(flat p).length]'hlt = s[k] := by simp only [hkk]
    rw [hge, ← hkk] at hc'
    clear hcase hlt hkk hge
    have hu := s[k].toNat_lt
    rcases hc' with ⟨hp, hz, hend⟩ | ⟨m, q, hls, hm, hm1, hm2, hfit⟩
    · have hzb : ((s[k].toNat : Int) == 0) = true := by rw [hz]; rfl
      have hne : ((k : Int) == (s.size : Int) - 1) = true := by rw [beq_iff_eq]; omega
      have HP := Hid.mk hp
      clear hp hz hk
      go_wp2
      go_ret2
      refine ⟨⟨_, rfl, ?_⟩, hbl⟩
      rw [← HP.out]; exact hrow
    · have hzb : ((s[k].toNat : Int) == 0) = false := by rw [beq_eq_false_iff_ne]; omega
      have hbig : s[k].toNat ≤ 63 := by omega
      have hfit' : k + 1 + s[k].toNat ≤ s.size := by omega
      have hne0 : s[k] ≠ 0 := fun e => by rw [e] at hm; simp at hm; omega
      have HS := Hid.mk (Seq.snoc hsq hk.out hlt' hne0 hfit')
      have HL := Hid.mk (Seq.snoc_len hk.out hlt' hfit')
      have hsx : (s.extract (k + 1) (k + 1 + s[k].toNat)).size = s[k].toNat := HS.out.2
      have HX := Hid.mk hsx
      clear hne0 hsx hk hm hls hfit
      go_wp2_with (at_builtin; refine wpList_append_own _ rfl _ _ 22 rfl w.heap.size 9 i0 (.string ⟨#[]⟩) 1 16 Try.underlying22 hi hz0 hz1 hz2 rfl (by decide) _ _ _ rfl (hrow.alloc _) ⟨wr.heap.size, 0, none⟩ 1 1 [.string (s.extract (k + 1) (k + 1 + s[k].toNat))] rfl rfl (cell_one_new _ _ _) (by simp [Value.oneCell']) (by unfold maxLen; omega) (by omega) (by simp; omega) ?_; intro v1 w1 hown1 hgrow1 _)
      go_roundw
      case rel =>
        refine ⟨k + 1 + s[k].toNat, p ++ [(s.extract (k + 1) (k + 1 + s[k].toNat)).data.toList], by go_num, HL.out.symm, hfit', HS.out.1, ?_, ?_, seq_count HS.out.1 h, ?_⟩
        · intro l hl
          rcases List.mem_append.1 hl with h' | h'
          · exact h63 l h'
          · simp only [List.mem_singleton] at h'; subst h'; rw [size_list, HX.out]; omega
        · rw [List.length_append, strsV_snoc]; exact hown1
        · exact (hbl.alloc hsize _).grown hgrow1 (by simp; omega) (rowBase hrow)
      case measure => simp [intOf]; omega

theorem rLabels_yes (ls : List (List UInt8)) (ho : OkN ls) (w : World) :
    Calls Try.prog 10 #[.string (nm ls)] w fun e w' => (∃ v, e = .returned (.tuple #[v, .bool true]) ∧ Strs w'.heap.size w' v ls) ∧ Below w.heap.size w w' :=
  (rLabels_own ls ho w).mono fun e w' ⟨⟨v, he, hr⟩, hb⟩ => ⟨⟨v, he, strs_of_row hr⟩, hb⟩

theorem rLabels_none (s : ByteArray) (hm : s.size ≤ maxLen) (hn : ¬ IsName s) (w : World) :
    Calls Try.prog 10 #[.string s] w fun e w' => e = .returned (.tuple #[.slice none 0 0, .bool false]) ∧ Below w.heap.size w w' := by
  by_cases h : s.size ≤ 255
  · exact rLabels_no s h hn w
  · exact rLabels_long s hm (by omega) w

theorem rRight_yes (ls : List (List UInt8)) (ho : OkN ls) (w : World) :
    Calls Try.prog 50 #[.string (nm ls)] w fun e w' => e = .returned (.bool true) ∧ Below w.heap.size w w' := by
  go_enter Try.func50, Try.ntmps50
  go_wp2_with fail
  refine (rLabels_yes ls ho _).mono ?_
  rintro e w1 ⟨⟨v, rfl, _⟩, hb1⟩
  go_wp2
  go_ret
  exact ⟨rfl, hb1⟩
theorem rRight_no (s : ByteArray) (hm : s.size ≤ maxLen) (hn : ¬ IsName s) (w : World) :
    Calls Try.prog 50 #[.string s] w fun e w' => e = .returned (.bool false) ∧ Below w.heap.size w w' := by
  go_enter Try.func50, Try.ntmps50
  go_wp2_with fail
  refine (rLabels_none s hm hn _).mono ?_
  rintro e w1 ⟨rfl, hb1⟩
  go_wp2
  go_ret
  exact ⟨rfl, hb1⟩

end Go.Proofs.Ytpngjmeinlcggaa
