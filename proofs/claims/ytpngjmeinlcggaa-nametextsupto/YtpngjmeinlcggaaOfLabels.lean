/- Labels and Of. -/
import Derived.Test.YtpngjmeinlcggaaParse
import Derived.Test.YtpngjmeinlcggaaKin2
namespace Go.Proofs.Ytpngjmeinlcggaa
set_option linter.unusedVariables false
open Go.RowKit

theorem labels_no (s : ByteArray) (hs : s.size ≤ maxLen) (h : ¬ IsName s) (w : World) :
    Calls Try.prog 14 #[.string s] w fun e w' => e = .returned (.slice none 0 0) ∧ Below w.heap.size w w' := by
  go_enter Try.func14, Try.ntmps14
  go_wp2_with fail
  refine (right_no s h hs _).mono ?_
  rintro e w1 ⟨rfl, hb1⟩
  go_wp2
  go_ret
  exact ⟨rfl, hb1⟩

theorem labels_yes (ls : List (List UInt8)) (ho : OkN ls) (w : World) :
    Calls Try.prog 14 #[.string (nm ls)] w fun e w' => (∃ v, e = .returned v ∧ Strs w'.heap.size w' v ls) ∧ Below w.heap.size w w' := by
  have hz : (nm ls).size ≤ 255 := by rw [nm_size]; have := ho.len; omega
  go_enter Try.func14, Try.ntmps14
  go_wp2_with fail
  refine (right_yes ls ho _).mono ?_
  rintro e w1 ⟨rfl, hb1⟩
  go_wp2_with fail
  refine (clone_in _ _ hz).mono ?_
  rintro e w2 ⟨rfl, hb2⟩
  go_wp2_with fail
  refine (labelsOf_in ls ho _).mono ?_
  rintro e w3 ⟨⟨v, rfl, hv⟩, hb3⟩
  go_wp2
  go_ret
  exact ⟨⟨v, rfl, hv⟩, bthen hb1 (bthen hb2 hb3)⟩

/-- what Of makes of labels: the name, or why there is none. -/
def ofR (ls : List (List UInt8)) : List UInt8 × Nat := nmR (stOf ls)

theorem stOf_take (ls : List (List UInt8)) (k : Nat) (h : k < ls.length) : stOf (ls.take (k + 1)) = (addL (stOf (ls.take k)).1 (stOf (ls.take k)).2 ls[k], addBad (stOf (ls.take k)).2 ls[k]) := by
  rw [List.take_succ_eq_append_getElem h, stOf_snoc]

set_option maxHeartbeats 1000000 in
theorem of_some (b off cap : Nat) (ls : List (List UInt8)) (w : World) (hb : b < w.heap.size) (hn : ls.length ≤ maxLen) (hl : ∀ l ∈ ls, l.length ≤ maxLen)
    (hc : ∀ j (h : j < ls.length), w.cell? ⟨b, off + j, none⟩ = some (strV ls[j])) :
    Calls Try.prog 11 #[.slice (some ⟨b, off, none⟩) ls.length cap] w fun e w' => e = .returned (resV (ofR ls)) ∧ Below w.heap.size w w' := by
  unfold maxLen at hn
  go_enter Try.func11, Try.ntmps11
  go_wp2_with fail
  refine (newDraft_in _).mono ?_
  rintro e w1 ⟨rfl, hd1, hb1, hz1⟩
  have HZ := Hid.mk hz1
  clear hz1
  go_wp2_with fail
  go_loopw [10] (fun i wr => ∃ k : Nat, k ≤ ls.length ∧ i = .int .i64 k ∧ Draft wr w.heap.size (w.heap.size + 1) (stOf (ls.take k)).1 (stOf (ls.take k)).2 ∧ Below w.heap.size w wr) (fun i _ => ls.length - (intOf i).toNat)
  case atStart => exact ⟨0, Nat.zero_le _, rfl, hd1, hb1⟩
  case round =>
    obtain ⟨k, hk, rfl, hd, hbl⟩ := hrel
    clear hd1 hb1
    by_cases hlt : k < ls.length
    · obtain ⟨s, hsl, hcx⟩ : ∃ s : ByteArray, Hid (s.data.toList = ls[k]) ∧ wr.cell? ⟨b, off + k, none⟩ = some (.string s) :=
        ⟨⟨ls[k].toArray⟩, rfl, (hbl.cell (p := ⟨b, off + k, none⟩) hb).trans (hc k hlt)⟩
      have hst := stOf_take ls k hlt
      rw [← hsl.out] at hst
      have HST := Hid.mk hst
      have hsz : s.size ≤ maxLen := by rw [← size_list, hsl.out]; exact hl _ (List.getElem_mem hlt)
      have hle := stOf_len (ls.take k)
      have hws := hbl.size
      clear hst hc hl
      generalize stOf (ls.take k) = st at hd HST hle
      have HA := Hid.mk (add_in wr w.heap.size (w.heap.size + 1) st.1 st.2 s hsz hd (by omega) hws)
      clear hd hle
      go_wp2_with fail
      refine HA.out.mono ?_
      rintro e w2 ⟨rfl, hd2, hf2, hb2⟩
      go_wp2
      go_roundw
      case rel => exact ⟨k + 1, by omega, by go_num, by rw [HST.out]; exact hd2, hbl.trans hb2⟩
      case measure => simp [intOf]; omega
    · have hall : ls.take k = ls := List.take_of_length_le (by omega)
      rw [hall] at hd
      have hle := stOf_len ls
      have HN := Hid.mk (name_in wr _ _ (stOf ls).1 (stOf ls).2 (by omega) hd)
      have hr : nmR ((stOf ls).1, (stOf ls).2) = ofR ls := rfl
      rw [hr] at HN
      obtain ⟨⟨r1, r2⟩, hR⟩ : ∃ r, ofR ls = r := ⟨_, rfl⟩
      rw [hR] at HN
      have HR := Hid.mk hR
      clear hd hall hle hr hR hc hl
      go_wp2_with fail
      refine HN.out.mono ?_
      rintro e w2 ⟨rfl, hw2⟩
      rw [hw2]
      dsimp only [resV]
      go_wp2
      go_ret2
      exact ⟨by rw [HR.out]; rfl, hbl⟩

set_option maxHeartbeats 1000000 in
theorem of_nil (w : World) :
    Calls Try.prog 11 #[.slice none 0 0] w fun e w' => e = .returned (resV (ofR [])) ∧ Below w.heap.size w w' := by
  go_enter Try.func11, Try.ntmps11
  go_wp2_with fail
  refine (newDraft_in _).mono ?_
  rintro e w1 ⟨rfl, hd1, hb1, hz1⟩
  have HZ := Hid.mk hz1
  clear hz1
  go_wp2_with fail
  go_loopw [10] (fun i wr => i = .int .i64 0 ∧ wr = w1) (fun i _ => 0)
  case atStart => exact ⟨rfl, rfl⟩
  case round =>
    obtain ⟨rfl, rfl⟩ := hrel
    have HN := Hid.mk (name_in wr _ _ [] false (by simp) hd1)
    clear hd1
    go_wp2_with fail
    refine HN.out.mono ?_
    rintro e w2 ⟨rfl, hw2⟩
    rw [hw2]
    have hR : nmR ([], false) = ([0], 0) := by decide
    rw [hR]
    dsimp only [resV]
    go_wp2
    go_ret2
    exact ⟨rfl, hb1⟩

theorem of_in (v : Value) (ls : List (List UInt8)) (w : World) (h : Strs w.heap.size w v ls) (hn : ls.length ≤ maxLen) (hl : ∀ l ∈ ls, l.length ≤ maxLen) :
    Calls Try.prog 11 #[v] w fun e w' => e = .returned (resV (ofR ls)) ∧ Below w.heap.size w w' := by
  rcases h with ⟨rfl, rfl⟩ | ⟨g, cap, rfl, hg, hc⟩
  · exact of_nil w
  · exact of_some g 0 cap ls w hg hn hl (fun j hj => by rw [Nat.zero_add]; exact hc j hj)

theorem snocInd {α : Type} {P : List α → Prop} (h0 : P []) (h1 : ∀ ls l, P ls → P (ls ++ [l])) : ∀ ls, P ls := by
  have h : ∀ ls : List α, P ls.reverse := by
    intro ls
    induction ls with
    | nil => exact h0
    | cons l ls ih => rw [List.reverse_cons]; exact h1 _ _ ih
  intro ls
  have := h ls.reverse
  rwa [List.reverse_reverse] at this

/-! ### what Of says of right labels -/
theorem stOf_right : ∀ (ls : List (List UInt8)), (∀ l ∈ ls, 1 ≤ l.length ∧ l.length ≤ 63) → (stOf ls).2 = false ∧ ((flat ls).length ≤ 254 → (stOf ls).1 = flat ls) ∧ (254 < (flat ls).length → 254 < (stOf ls).1.length) := by
  refine snocInd (fun _ => ⟨rfl, fun _ => rfl, fun h => by simp [flat] at h⟩) ?_
  · intro ls l ih h
    have ih' := ih (fun x hx => h x (by simp [hx]))
    have hl := h l (by simp)
    rw [stOf_snoc, flat_snoc]
    obtain ⟨h1, h2, h3⟩ := ih'
    have hb : addBad (stOf ls).2 l = false := by rw [h1]; simp [addBad, hl]
    refine ⟨hb, fun hf => ?_, fun hf => ?_⟩
    · have hf' : (flat ls).length ≤ 254 := by simp at hf; omega
      have := h2 hf'
      simp only [h1, addL, this]
      rw [if_pos ⟨hl.1, hl.2, trivial, by omega⟩]
    · by_cases hf' : (flat ls).length ≤ 254
      · have := h2 hf'
        simp only [h1, addL, this]
        rw [if_pos ⟨hl.1, hl.2, trivial, by omega⟩]
        exact hf
      · have := h3 (by omega)
        simp only [addL]
        split
        · simp; omega
        · exact this

theorem ofR_right {ls : List (List UInt8)} (h : ∀ l ∈ ls, 1 ≤ l.length ∧ l.length ≤ 63) : ofR ls = if (nm ls).size ≤ 255 then (nmL ls, 0) else ([], 3) := by
  obtain ⟨h1, h2, h3⟩ := stOf_right ls h
  unfold ofR nmR
  rw [if_neg (by rw [h1]; simp), nm_size]
  by_cases hf : (flat ls).length ≤ 254
  · rw [h2 hf, if_pos (by omega), if_pos (by omega)]; rfl
  · have := h3 (by omega)
    rw [if_neg (by omega), if_neg (by omega)]

end Go.Proofs.Ytpngjmeinlcggaa
