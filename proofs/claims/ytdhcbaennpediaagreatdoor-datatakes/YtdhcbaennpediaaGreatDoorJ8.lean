/- Texts of this proof, joined: RefLabels, DRefRd, DRefSt, DRefKey, DRefDs. -/
import Derived.Test.YtdhcbaennpediaaGreatDoorJ2
import Derived.Test.YtdhcbaennpediaaGreatDoorJ7
/- The document's own Labels and Right (guidepostref01). -/
namespace Go.Proofs.YtdhcbaennpediaaGreatDoor
set_option linter.unusedVariables false
open Go.RowKit

theorem name_next {ls p : List (List UInt8)} (ho : OkN ls) (h : Seq (nm ls) p) : (flat p).length < (nm ls).size ∧
    ∀ hlt : (flat p).length < (nm ls).size, (p = ls ∧ (nm ls)[(flat p).length] = 0 ∧ (flat p).length + 1 = (nm ls).size) ∨
      (∃ m q, ls = p ++ m :: q ∧ (nm ls)[(flat p).length].toNat = m.length ∧ 1 ≤ m.length ∧ m.length ≤ 63 ∧ (flat p).length + 1 + m.length < (nm ls).size) := by
  obtain ⟨q, hq⟩ := h.of_name ho
  have hfl : flat ls = flat p ++ flat q := by rw [← hq, flat_append]
  refine ⟨by rw [nm_size, hfl, List.length_append]; omega, fun hlt => ?_⟩
  cases q with
  | nil =>
    left
    rw [List.append_nil] at hq
    subst hq
    exact ⟨rfl, nm_get_end p hlt, by rw [nm_size]⟩
  | cons m q =>
    right
    have hm := ho.lab m (by rw [← hq]; simp)
    have hc : (nm ls)[(flat p).length] = UInt8.ofNat m.length := by
      rw [← getElem_list _ _ hlt]
      simp [nm_list, nmL, hfl, flat]
    refine ⟨m, q, hq.symm, ?_, hm.1, hm.2, ?_⟩
    · rw [hc]; simp; omega
    · rw [nm_size, hfl, List.length_append]; simp only [flat, List.length_cons, List.length_append]; omega

theorem rLabels_long (s : ByteArray) (hm : s.size ≤ maxLen) (h : 255 < s.size) (w : World) :
    Calls Tryz.prog 72 #[.string s] w fun e w' => e = .returned (.tuple #[.slice none 0 0, .bool false]) ∧ Below w.heap.size w w' := by
  unfold maxLen at hm
  go_enter Tryz.func72, Tryz.ntmps72
  go_wp2
  go_ret2
  exact ⟨rfl, Below.refl _ _⟩

theorem strsV_snoc (ls : List (List UInt8)) (s : ByteArray) : strsV (ls ++ [s.data.toList]) = strsV ls ++ [.string s] := by simp [strsV, strV_of]

theorem rowBase {W : World} {n₀ n : Nat} {e : TypeId} {v : Value} {xs : List Value} (h : W.ownsRow n₀ e 1 v n xs) : ∀ k, v.ownBlock = some k → n₀ ≤ k := by
  intro k e
  rcases h.2 with ⟨rfl, _⟩ | ⟨g, cap, cur, rfl, hb, _⟩
  · simp [Value.ownBlock] at e
  · obtain rfl : g = k := by simpa [Value.ownBlock] using e
    exact hb

/-- how the loop of Labels stands. -/
def RefRel (s : ByteArray) (n₀ : Nat) (w : World) (v i : Value) (wr : World) : Prop :=
  ∃ (k : Nat) (p : List (List UInt8)), i = .int .i64 k ∧ Hid (k = (flat p).length) ∧ k ≤ s.size ∧ Seq s p ∧ (∀ l ∈ p, l.length ≤ 63) ∧ wr.ownsRow n₀ 9 1 v p.length (strsV p) ∧ p.length ≤ 127 ∧ Below n₀ w wr

theorem seq_count {s : ByteArray} {p : List (List UInt8)} (h : Seq s p) (hs : s.size ≤ 255) : p.length ≤ 127 := by
  have h1 := flat_count p (fun l hl => (h.lab l hl).1)
  have h2 := h.le
  omega

set_option maxRecDepth 100000 in
set_option maxHeartbeats 2000000 in
theorem rLabels_no (s : ByteArray) (h : s.size ≤ 255) (hn : ¬ IsName s) (w : World) :
    Calls Tryz.prog 72 #[.string s] w fun e w' => e = .returned (.tuple #[.slice none 0 0, .bool false]) ∧ Below w.heap.size w w' := by
  obtain ⟨i0, hi, hz0, hz1, hz2⟩ := info_parts info9
  have hb255 : decide (255 < (s.size : Int)) = false := by simp; omega
  go_enter Tryz.func72, Tryz.ntmps72
  go_wp2
  go_loopw [4, 5] (fun v i wr => RefRel s w.heap.size w v i wr) (fun _ i _ => s.size - (intOf i).toNat)
  case atStart => exact ⟨0, [], rfl, rfl, Nat.zero_le _, Seq.nil s, by simp, World.ownsRow_nil .., by simp, Below.refl _ _⟩
  case round =>
    obtain ⟨k, p, rfl, hk, hle, hsq, h63, hrow, hct, hbl⟩ := hrel
    have hsize := hbl.size
    by_cases hlt : k < s.size
    · have hu := s[k].toNat_lt
      by_cases hz : s[k].toNat = 0
      · have hzb : ((s[k].toNat : Int) == 0) = true := by rw [hz]; rfl
        have hne : ((k : Int) == (s.size : Int) - 1) = false := by
          rw [beq_eq_false_iff_ne]
          intro e
          refine hn ⟨p, (hsq.is_name h63 h ?_ (fun l hl => (hsq.lab l hl).1))⟩
          have e2 : s.data.toList = s.data.toList.take k ++ s.data.toList.drop k := (List.take_append_drop k _).symm
          have e3 : s.data.toList.take k = flat p := by
            have := List.prefix_iff_eq_take.1 hsq.pre; rw [hk.out]; exact this.symm
          have e4 : s.data.toList.drop k = [s[k]] := by
            rw [List.drop_eq_getElem_cons (by rw [size_list]; exact hlt), List.drop_of_length_le (by rw [size_list]; omega)]; rfl
          have e5 : s[k] = 0 := UInt8.toNat_inj.1 (by rw [hz]; rfl)
          rw [e2, e3, e4, e5]
        clear hz hk
        go_wp2
        go_ret2
        exact ⟨rfl, hbl⟩
      · have hzb : ((s[k].toNat : Int) == 0) = false := by rw [beq_eq_false_iff_ne]; omega
        by_cases hbig : 63 < s[k].toNat
        · clear hk
          go_wp2
          go_ret2
          exact ⟨rfl, hbl⟩
        · by_cases hfit : k + 1 + s[k].toNat ≤ s.size
          · have hne0 : s[k] ≠ 0 := fun e => hz (by rw [e]; rfl)
            have HS := Hid.mk (Seq.snoc hsq hk.out hlt hne0 hfit)
            have HL := Hid.mk (Seq.snoc_len hk.out hlt hfit)
            have hsx : (s.extract (k + 1) (k + 1 + s[k].toNat)).size = s[k].toNat := HS.out.2
            have HX := Hid.mk hsx
            clear hne0 hsx hk
            go_wp2_with (at_builtin; refine wpList_append_own _ rfl _ _ 84 rfl w.heap.size 9 i0 (.string ⟨#[]⟩) 1 16 Tryz.underlying84 hi hz0 hz1 hz2 rfl (by decide) _ _ _ rfl (hrow.alloc _) ⟨wr.heap.size, 0, none⟩ 1 1 [.string (s.extract (k + 1) (k + 1 + s[k].toNat))] rfl rfl (cell_one_new _ _ _) (by simp [Value.oneCell']) (by unfold maxLen; omega) (by omega) (by simp; omega) ?_; intro v1 w1 hown1 hgrow1 _)
            go_roundw
            case rel =>
              refine ⟨k + 1 + s[k].toNat, p ++ [(s.extract (k + 1) (k + 1 + s[k].toNat)).data.toList], by go_num, HL.out.symm, hfit, HS.out.1, ?_, ?_, seq_count HS.out.1 h, ?_⟩
              · intro l hl
                rcases List.mem_append.1 hl with h' | h'
                · exact h63 l h'
                · simp only [List.mem_singleton] at h'; subst h'; rw [size_list, HX.out]; omega
              · rw [List.length_append, strsV_snoc]; exact hown1
              · exact (hbl.alloc hsize _).grown hgrow1 (by simp; omega) (rowBase hrow)
            case measure => simp [intOf]; omega
          · have hfit' : s.size < k + 1 + s[k].toNat := by omega
            have hbig' : s[k].toNat ≤ 63 := by omega
            clear hfit hbig hk
            go_wp2
            go_ret2
            exact ⟨rfl, hbl⟩
    · clear hk
      go_wp2
      go_ret2
      exact ⟨rfl, hbl⟩

set_option maxRecDepth 100000 in
set_option maxHeartbeats 2000000 in
theorem rLabels_own (ls : List (List UInt8)) (ho : OkN ls) (w : World) :
    Calls Tryz.prog 72 #[.string (nm ls)] w fun e w' => (∃ v, e = .returned (.tuple #[v, .bool true]) ∧ w'.ownsRow w.heap.size 9 1 v ls.length (strsV ls)) ∧ Below w.heap.size w w' := by
  have h : (nm ls).size ≤ 255 := by rw [nm_size]; have := ho.len; omega
  obtain ⟨s, hs⟩ : ∃ s, nm ls = s := ⟨_, rfl⟩
  have hnx := fun p => name_next (p := p) ho
  rw [hs] at h hnx ⊢
  have HNX := Hid.mk hnx
  clear hnx
  obtain ⟨i0, hi, hz0, hz1, hz2⟩ := info_parts info9
  have hb255 : decide (255 < (s.size : Int)) = false := by simp; omega
  go_enter Tryz.func72, Tryz.ntmps72
  go_wp2
  go_loopw [4, 5] (fun v i wr => RefRel s w.heap.size w v i wr) (fun _ i _ => s.size - (intOf i).toNat)
  case atStart => exact ⟨0, [], rfl, rfl, Nat.zero_le _, Seq.nil s, by simp, World.ownsRow_nil .., by simp, Below.refl _ _⟩
  case round =>
    obtain ⟨k, p, rfl, hk, hle, hsq, h63, hrow, hct, hbl⟩ := hrel
    have hsize := hbl.size
    obtain ⟨hlt, hcase⟩ := HNX.out p hsq
    have hc' := hcase hlt
    have hkk := hk.out
    have hlt' : k < s.size := by rw [hkk]; exact hlt
    have hge : s[(flat p).length]'hlt = s[k] := by simp only [hkk]
    rw [hge, ← hkk] at hc'
    clear hcase hlt hkk hge
    have hu := s[k].toNat_lt
    rcases hc' with ⟨hp, hz, hend⟩ | ⟨m, q, hls, hm, hm1, hm2, hfit⟩
    · have hzb : ((s[k].toNat : Int) == 0) = true := by rw [hz]; rfl
      have hne : ((k : Int) == (s.size : Int) - 1) = true := by rw [beq_iff_eq]; omega
      have HP := Hid.mk hp
      clear hp hz hk
      go_wp2
      go_ret2
      refine ⟨⟨_, rfl, ?_⟩, hbl⟩
      rw [← HP.out]; exact hrow
    · have hzb : ((s[k].toNat : Int) == 0) = false := by rw [beq_eq_false_iff_ne]; omega
      have hbig : s[k].toNat ≤ 63 := by omega
      have hfit' : k + 1 + s[k].toNat ≤ s.size := by omega
      have hne0 : s[k] ≠ 0 := fun e => by rw [e] at hm; simp at hm; omega
      have HS := Hid.mk (Seq.snoc hsq hk.out hlt' hne0 hfit')
      have HL := Hid.mk (Seq.snoc_len hk.out hlt' hfit')
      have hsx : (s.extract (k + 1) (k + 1 + s[k].toNat)).size = s[k].toNat := HS.out.2
      have HX := Hid.mk hsx
      clear hne0 hsx hk hm hls hfit
      go_wp2_with (at_builtin; refine wpList_append_own _ rfl _ _ 84 rfl w.heap.size 9 i0 (.string ⟨#[]⟩) 1 16 Tryz.underlying84 hi hz0 hz1 hz2 rfl (by decide) _ _ _ rfl (hrow.alloc _) ⟨wr.heap.size, 0, none⟩ 1 1 [.string (s.extract (k + 1) (k + 1 + s[k].toNat))] rfl rfl (cell_one_new _ _ _) (by simp [Value.oneCell']) (by unfold maxLen; omega) (by omega) (by simp; omega) ?_; intro v1 w1 hown1 hgrow1 _)
      go_roundw
      case rel =>
        refine ⟨k + 1 + s[k].toNat, p ++ [(s.extract (k + 1) (k + 1 + s[k].toNat)).data.toList], by go_num, HL.out.symm, hfit', HS.out.1, ?_, ?_, seq_count HS.out.1 h, ?_⟩
        · intro l hl
          rcases List.mem_append.1 hl with h' | h'
          · exact h63 l h'
          · simp only [List.mem_singleton] at h'; subst h'; rw [size_list, HX.out]; omega
        · rw [List.length_append, strsV_snoc]; exact hown1
        · exact (hbl.alloc hsize _).grown hgrow1 (by simp; omega) (rowBase hrow)
      case measure => simp [intOf]; omega

theorem rLabels_yes (ls : List (List UInt8)) (ho : OkN ls) (w : World) :
    Calls Tryz.prog 72 #[.string (nm ls)] w fun e w' => (∃ v, e = .returned (.tuple #[v, .bool true]) ∧ Strs w'.heap.size w' v ls) ∧ Below w.heap.size w w' :=
  (rLabels_own ls ho w).mono fun e w' ⟨⟨v, he, hr⟩, hb⟩ => ⟨⟨v, he, strs_of_row hr⟩, hb⟩

theorem rLabels_none (s : ByteArray) (hm : s.size ≤ maxLen) (hn : ¬ IsName s) (w : World) :
    Calls Tryz.prog 72 #[.string s] w fun e w' => e = .returned (.tuple #[.slice none 0 0, .bool false]) ∧ Below w.heap.size w w' := by
  by_cases h : s.size ≤ 255
  · exact rLabels_no s h hn w
  · exact rLabels_long s hm (by omega) w

theorem rRight_yes (ls : List (List UInt8)) (ho : OkN ls) (w : World) :
    Calls Tryz.prog 47 #[.string (nm ls)] w fun e w' => e = .returned (.bool true) ∧ Below w.heap.size w w' := by
  go_enter Tryz.func47, Tryz.ntmps47
  go_wp2_with fail
  refine (rLabels_yes ls ho _).mono ?_
  rintro e w1 ⟨⟨v, rfl, _⟩, hb1⟩
  go_wp2
  go_ret
  exact ⟨rfl, hb1⟩
theorem rRight_no (s : ByteArray) (hm : s.size ≤ maxLen) (hn : ¬ IsName s) (w : World) :
    Calls Tryz.prog 47 #[.string s] w fun e w' => e = .returned (.bool false) ∧ Below w.heap.size w w' := by
  go_enter Tryz.func47, Tryz.ntmps47
  go_wp2_with fail
  refine (rLabels_none s hm hn _).mono ?_
  rintro e w1 ⟨rfl, hb1⟩
  go_wp2
  go_ret
  exact ⟨rfl, hb1⟩

end Go.Proofs.YtdhcbaennpediaaGreatDoor

/- The document's own reader (guidepostref02): the walks of its steps. -/
namespace Go.Proofs.YtdhcbaennpediaaGreatDoor
set_option linter.unusedVariables false
open Go.RowKit

/-- the document's reader at block d: what is left, and whether it is bad. -/
def RR (W : World) (d : Nat) (s : ByteArray) (b : Bool) : Prop := W.heap[d]? = some (.cells #[.string s, .bool b] 90 (0, 0))
theorem RR.c0 {W : World} {d : Nat} {s : ByteArray} {b : Bool} (h : RR W d s b) : W.cell? ⟨d, 0, none⟩ = some (.string s) ∧ W.frozen? ⟨d, 0, none⟩ = false := cells_at h rfl
theorem RR.c1 {W : World} {d : Nat} {s : ByteArray} {b : Bool} (h : RR W d s b) : W.cell? ⟨d, 1, none⟩ = some (.bool b) ∧ W.frozen? ⟨d, 1, none⟩ = false := cells_at h rfl
theorem RR.lt {W : World} {d : Nat} {s : ByteArray} {b : Bool} (h : RR W d s b) : d < W.heap.size := box_lt h
theorem RR.set0 {W : World} {d : Nat} {s : ByteArray} {b : Bool} (h : RR W d s b) (t : ByteArray) : RR (W.setCell ⟨d, 0, none⟩ (.string t)) d t b := cells_put (j := 0) h (.string t)
theorem RR.set1 {W : World} {d : Nat} {s : ByteArray} {b : Bool} (h : RR W d s b) (c : Bool) : RR (W.setCell ⟨d, 1, none⟩ (.bool c)) d s c := cells_put (j := 1) h (.bool c)
theorem RR.below {W W' : World} {d : Nat} {s : ByteArray} {b : Bool} (h : RR W d s b) (k : Below W.heap.size W W') : RR W' d s b := (k.block d h.lt).trans h
theorem RR.kept {W W' : World} {d c : Nat} {s : ByteArray} {b : Bool} (h : RR W d s b) (k : Kept c W W') (hc : d ≠ c) : RR W' d s b := (k.same d h.lt hc).trans h

set_option maxRecDepth 100000 in
theorem rTake_in (W : World) (d n : Nat) (s : ByteArray) (b : Bool) (hs : s.size ≤ 140737488355328) (hn : n ≤ 140737488356000) (h : RR W d s b) :
    Calls Tryz.prog 43 #[boxV d, .int .i64 n] W fun e w' => e = .returned (.string (tkS n s)) ∧ RR w' d (tkR n s) (b || decide (s.size < n)) ∧ Kept d W w' := by
  obtain ⟨hc0, hf0⟩ := h.c0
  obtain ⟨hc1, hf1⟩ := h.c1
  by_cases hl : n ≤ s.size
  · rw [tkS, if_pos hl, tkR, if_pos hl, decide_eq_false (by omega), Bool.or_false]
    have HH := Hid.mk h
    clear h
    go_enter Tryz.func43, Tryz.ntmps43
    go_wp2
    go_ret
    exact ⟨rfl, HH.out.set0 _, Kept.set _ _ _ _⟩
  · rw [tkS, if_neg hl, tkR, if_neg hl, decide_eq_true (by omega), Bool.or_true]
    have HH := Hid.mk h
    have h2 := (h.set1 true).c0
    obtain ⟨hc2, hf2⟩ := h2
    clear h
    go_enter Tryz.func43, Tryz.ntmps43
    go_wp2
    go_ret
    exact ⟨rfl, (HH.out.set1 true).set0 _, (Kept.set _ _ _ _).trans (Kept.set _ _ _ _)⟩

set_option maxRecDepth 100000 in
set_option maxHeartbeats 1000000 in
theorem rNum_in (W : World) (d n : Nat) (s : ByteArray) (b : Bool) (hs : s.size ≤ 140737488355328) (hn : n ≤ 4) (h : RR W d s b) :
    Calls Tryz.prog 39 #[boxV d, .int .i64 n] W fun e w' => e = .returned (.int .i64 ((numB (tkS n s).data.toList : Nat) : Int)) ∧ RR w' d (tkR n s) (b || decide (s.size < n)) ∧ Kept d W w' := by
  have HT := Hid.mk (rTake_in W d n s b hs (by omega) h)
  have hk := (tkS_le n s).1
  generalize tkS n s = t at HT hk ⊢
  have ht : t.size ≤ 4 := by omega
  clear hk h
  go_enter Tryz.func39, Tryz.ntmps39
  go_wp2_with fail
  refine HT.out.mono ?_
  rintro e w1 ⟨rfl, hr1, hk1⟩
  have HR1 := Hid.mk hr1
  have HK1 := Hid.mk hk1
  clear hr1 hk1 HT
  go_wp2
  go_loopw [6, 7] (fun nv i wr => ∃ k : Nat, k ≤ t.size ∧ i = .int .i64 k ∧ nv = .int .i64 ((numB (t.data.toList.take k) : Nat) : Int) ∧ wr = w1) (fun _ i _ => t.size - (intOf i).toNat)
  case atStart => exact ⟨0, Nat.zero_le _, rfl, rfl, rfl⟩
  case round =>
    obtain ⟨k, hk, rfl, rfl, rfl⟩ := hrel
    by_cases hlt : k < t.size
    · have hlt' : k < t.data.toList.length := by rw [size_list]; exact hlt
      have hb := t[k].toNat_lt
      have HN : Hid (numB (t.data.toList.take (k + 1)) = numB (t.data.toList.take k) * 256 + t[k].toNat) := by
        rw [Hid, List.take_succ_eq_append_getElem hlt', numB_snoc]; rfl
      have hlt6 : numB (t.data.toList.take k) < 4294967296 := by
        refine Nat.lt_of_lt_of_le (numB_lt _) ?_
        have : (t.data.toList.take k).length ≤ 4 := by rw [List.length_take]; omega
        exact Nat.le_trans (Nat.pow_le_pow_right (by omega) this) (by decide)
      generalize numB (t.data.toList.take k) = q at hlt6 HN ⊢
      go_wp2
      exact ⟨⟨k + 1, by omega, by go_num, by rw [HN.out]; go_num, trivial⟩, by simp [intOf]; omega⟩
    · have hall : t.data.toList.take k = t.data.toList := List.take_of_length_le (by rw [size_list]; omega)
      rw [hall]
      go_wp2
      go_ret
      exact ⟨rfl, HR1.out, HK1.out⟩

set_option maxRecDepth 100000 in
theorem rAll_in (W : World) (d : Nat) (s : ByteArray) (b : Bool) (hs : s.size ≤ 140737488355328) (h : RR W d s b) :
    Calls Tryz.prog 40 #[boxV d, .int .i64 1] W fun e w' => e = .returned (.string s) ∧ RR w' d ⟨#[]⟩ (b || decide (s.size < 1)) ∧ Kept d W w' := by
  obtain ⟨hc0, hf0⟩ := h.c0
  obtain ⟨hc1, hf1⟩ := h.c1
  have HH := Hid.mk h
  cases b with
  | true =>
    obtain ⟨hc2, hf2⟩ := (h.set1 true).c0
    clear h
    go_enter Tryz.func40, Tryz.ntmps40
    go_wp2
    go_ret
    exact ⟨rfl, (HH.out.set1 true).set0 _, (Kept.set _ _ _ _).trans (Kept.set _ _ _ _)⟩
  | false =>
    have e0 : decide ((s.size : Int) < 1) = decide (s.size < 1) := decide_eq_decide.2 (by omega)
    obtain ⟨hc2, hf2⟩ := (h.set1 (decide ((s.size : Int) < 1))).c0
    have HE := Hid.mk e0
    clear h e0
    go_enter Tryz.func40, Tryz.ntmps40
    go_wp2
    go_ret
    rw [HE.out]
    exact ⟨rfl, (HH.out.set1 _).set0 _, (Kept.set _ _ _ _).trans (Kept.set _ _ _ _)⟩

open Classical in
theorem rRight_all (s : ByteArray) (hm : s.size ≤ maxLen) (w : World) :
    Calls Tryz.prog 47 #[.string s] w fun e w' => e = .returned (.bool (decide (IsName s))) ∧ Below w.heap.size w w' := by
  by_cases h : IsName s
  · rw [decide_eq_true h]
    obtain ⟨ls, ho, rfl⟩ := h
    exact rRight_yes ls ho w
  · rw [decide_eq_false h]
    exact rRight_no s hm h w

/-- what the document's reader hands back for a name. -/
def NamePost (s : ByteArray) (b : Bool) (d : Nat) (W : World) (e : Ending) (w' : World) : Prop := ∃ t r' b', e = .returned (.string t) ∧ RR w' d r' b' ∧ Kept d W w' ∧ Stp .name s b t r' b' ∧ r'.size ≤ s.size

set_option maxRecDepth 100000 in
set_option maxHeartbeats 2000000 in
open Classical in
theorem rName_in (W : World) (d : Nat) (s : ByteArray) (b : Bool) (hs : s.size ≤ 140737488355328) (h : RR W d s b) :
    Calls Tryz.prog 38 #[boxV d] W fun e w' => NamePost s b d W e w' := by
  obtain ⟨hc0, hf0⟩ := h.c0
  have hs' := hs
  have HH := Hid.mk h
  have HS := Hid.mk hs
  clear h hs
  go_enter Tryz.func38, Tryz.ntmps38
  go_wp2
  go_loopw [3] (fun nv wr => ∃ n : Nat, nv = .int .i64 n ∧ n ≤ s.size + 64 ∧ Hid (OnWay s n) ∧ wr = W) (fun nv _ => s.size + 65 - (intOf nv).toNat)
  case atStart => exact ⟨0, rfl, by omega, onWay_first s, rfl⟩
  case round =>
    obtain ⟨n, rfl, hn, HW, rfl⟩ := hrel
    have key : ∀ (hend : ∀ hn : n < s.size, s[n].toNat = 0 ∨ 63 < s[n].toNat), Hid (Calls Tryz.prog 43 #[boxV d, .int .i64 ((n + 1 : Nat) : Int)] wr fun e w' => e = .returned (.string (tkS (n + 1) s)) ∧ RR w' d (tkR (n + 1) s) (b || decide (s.size < n + 1)) ∧ Kept d wr w') ∧
        Hid (∀ c, c = decide (IsName (tkS (n + 1) s)) → Stp .name s b (tkS (n + 1) s) (tkR (n + 1) s) ((b || decide (s.size < n + 1)) || !c)) ∧ Hid (∀ w, Calls Tryz.prog 47 #[.string (tkS (n + 1) s)] w fun e w' => e = .returned (.bool (decide (IsName (tkS (n + 1) s)))) ∧ Below w.heap.size w w') ∧ Hid ((tkR (n + 1) s).size ≤ s.size) := fun hend =>
      ⟨rTake_in wr d (n + 1) s b HS.out (by omega) HH.out, fun c hc => stp_name HW.out hend b c (by rw [hc, decide_eq_true_iff]), fun w => rRight_all _ (by have := (tkS_le (n + 1) s).2; have := HS.out; unfold maxLen; omega) w, tkR_le _ _⟩
    have hw1 : IntKind.i64.wrap ((n : Int) + 1) = ((n + 1 : Nat) : Int) := by rw [IntKind.wrap_i64]; omega
    by_cases hlt : n < s.size
    · have hu := s[n].toNat_lt
      by_cases h0 : s[n].toNat = 0
      · obtain ⟨HT, HP, HRt, HSz⟩ := key (fun _ => .inl h0)
        have hne : ((s[n].toNat : Int) != 0) = false := by rw [h0]; rfl
        clear key HW h0
        generalize tkS (n + 1) s = t at HT HP HRt
        generalize tkR (n + 1) s = r' at HT HP HSz
        generalize (b || decide (s.size < n + 1)) = b1 at HT HP
        have HP' := Hid.mk (HP.out _ rfl)
        generalize decide (IsName t) = cc at HRt HP'
        clear HP
        go_wp2_with fail
        refine HT.out.mono ?_
        rintro e w1 ⟨rfl, hr1, hk1⟩
        go_wp2_with fail
        refine (HRt.out _).mono ?_
        rintro e w2 ⟨rfl, hb2⟩
        have hr2 := hr1.below hb2
        have hk2 : Kept d wr w2 := hk1.trans (Kept.of_below hb2)
        obtain ⟨g1, f1⟩ := hr2.c1
        have HR2 := Hid.mk hr2
        clear hr1 hr2 HT HRt
        cases b1 with
        | true =>
          go_wp2
          go_ret
          exact ⟨t, r', true, rfl, HR2.out.set1 _, hk2.trans (Kept.set _ _ _ _), HP'.out, HSz.out⟩
        | false =>
          go_wp2
          go_ret
          exact ⟨t, r', !cc, rfl, HR2.out.set1 _, hk2.trans (Kept.set _ _ _ _), HP'.out, HSz.out⟩
      · have hne : ((s[n].toNat : Int) != 0) = true := by rw [bne_iff_ne]; omega
        by_cases h63 : s[n].toNat ≤ 63
        · have HN := Hid.mk (onWay_next HW.out hlt h0)
          clear key h0
          go_wp2
          exact ⟨⟨n + 1 + s[n].toNat, by go_num, by omega, HN.out, trivial⟩, by simp [intOf]; omega⟩
        · obtain ⟨HT, HP, HRt, HSz⟩ := key (fun _ => .inr (by omega))
          clear key HW h0
          generalize tkS (n + 1) s = t at HT HP HRt
          generalize tkR (n + 1) s = r' at HT HP HSz
          generalize (b || decide (s.size < n + 1)) = b1 at HT HP
          have HP' := Hid.mk (HP.out _ rfl)
          generalize decide (IsName t) = cc at HRt HP'
          clear HP
          go_wp2_with fail
          refine HT.out.mono ?_
          rintro e w1 ⟨rfl, hr1, hk1⟩
          go_wp2_with fail
          refine (HRt.out _).mono ?_
          rintro e w2 ⟨rfl, hb2⟩
          have hr2 := hr1.below hb2
          have hk2 : Kept d wr w2 := hk1.trans (Kept.of_below hb2)
          obtain ⟨g1, f1⟩ := hr2.c1
          have HR2 := Hid.mk hr2
          clear hr1 hr2 HT HRt
          cases b1 with
          | true =>
            go_wp2
            go_ret
            exact ⟨t, r', true, rfl, HR2.out.set1 _, hk2.trans (Kept.set _ _ _ _), HP'.out, HSz.out⟩
          | false =>
            go_wp2
            go_ret
            exact ⟨t, r', !cc, rfl, HR2.out.set1 _, hk2.trans (Kept.set _ _ _ _), HP'.out, HSz.out⟩
    · obtain ⟨HT, HP, HRt, HSz⟩ := key (fun h => absurd h hlt)
      clear key HW
      generalize tkS (n + 1) s = t at HT HP HRt
      generalize tkR (n + 1) s = r' at HT HP HSz
      generalize (b || decide (s.size < n + 1)) = b1 at HT HP
      have HP' := Hid.mk (HP.out _ rfl)
      generalize decide (IsName t) = cc at HRt HP'
      clear HP
      go_wp2_with fail
      refine HT.out.mono ?_
      rintro e w1 ⟨rfl, hr1, hk1⟩
      go_wp2_with fail
      refine (HRt.out _).mono ?_
      rintro e w2 ⟨rfl, hb2⟩
      have hr2 := hr1.below hb2
      have hk2 : Kept d wr w2 := hk1.trans (Kept.of_below hb2)
      obtain ⟨g1, f1⟩ := hr2.c1
      have HR2 := Hid.mk hr2
      clear hr1 hr2 HT HRt
      cases b1 with
      | true =>
        go_wp2
        go_ret
        exact ⟨t, r', true, rfl, HR2.out.set1 _, hk2.trans (Kept.set _ _ _ _), HP'.out, HSz.out⟩
      | false =>
        go_wp2
        go_ret
        exact ⟨t, r', !cc, rfl, HR2.out.set1 _, hk2.trans (Kept.set _ _ _ _), HP'.out, HSz.out⟩
end Go.Proofs.YtdhcbaennpediaaGreatDoor

/- The document's own reader at work: what lies where while it takes data apart. -/
namespace Go.Proofs.YtdhcbaennpediaaGreatDoor
set_option linter.unusedVariables false
open Go.RowKit

/-- the reader, and the place of the answer. -/
structure S0 (W w : World) (a rb : Nat) (r : ByteArray) (b : Bool) (t : TypeId) (zs : Array Value) : Prop where
  rr : RR w rb r b
  res : w.heap[a]? = some (.cells zs t (0, 0))
  bel : Below W.heap.size W w
  ne : a ≠ rb
  ha : W.heap.size ≤ a
  hr : W.heap.size ≤ rb
/-- besides, the fields. -/
structure S1 (W w : World) (a rb xb : Nat) (r : ByteArray) (b : Bool) (t : TypeId) (zs cs : Array Value) : Prop where
  s : S0 W w a rb r b t zs
  x : w.heap[xb]? = some (.cells cs t (0, 0))
  nx : xb ≠ rb
  na : a ≠ xb
  hx : W.heap.size ≤ xb
theorem S0.first (W : World) (t : TypeId) (zs : Array Value) (d : ByteArray) : S0 W ((W.alloc (.cells zs t)).alloc (.cells #[.string d, .bool false] 90)) W.heap.size (W.heap.size + 1) d false t zs := by
  have h1 : (W.alloc (.cells zs t)).heap.size = W.heap.size + 1 := by simp
  refine ⟨?_, ?_, ((Below.refl _ _).alloc (Nat.le_refl _) _).alloc (by simp) _, by omega, Nat.le_refl _, by omega⟩
  · have := heap_new (W.alloc (.cells zs t)) (.cells #[.string d, .bool false] 90)
    rw [h1] at this
    exact this
  · exact (((Below.refl (W.alloc (.cells zs t)).heap.size _).alloc (Nat.le_refl _) _).block _ (by simp)).trans (heap_new _ _)
theorem S0.call {W w w' : World} {a rb : Nat} {r r' : ByteArray} {b b' : Bool} {t : TypeId} {zs : Array Value} (h : S0 W w a rb r b t zs) (hr : RR w' rb r' b') (hk : Kept rb w w') : S0 W w' a rb r' b' t zs :=
  ⟨hr, (hk.same a (box_lt h.res) h.ne).trans h.res, h.bel.trans (hk.below h.hr h.bel.size), h.ne, h.ha, h.hr⟩
theorem S0.new {W w : World} {a rb : Nat} {r : ByteArray} {b : Bool} {t : TypeId} {zs : Array Value} (h : S0 W w a rb r b t zs) (cs : Array Value) : S1 W (w.alloc (.cells cs t)) a rb w.heap.size r b t zs cs := by
  have hb := (Below.refl w.heap.size w).alloc (Nat.le_refl _) (.cells cs t)
  have h1 := h.rr.lt
  have h2 := box_lt h.res
  exact ⟨⟨h.rr.below hb, (hb.block a h2).trans h.res, h.bel.alloc h.bel.size _, h.ne, h.ha, h.hr⟩, heap_new _ _, by omega, by omega, h.bel.size⟩
theorem S1.call {W w w' : World} {a rb xb : Nat} {r r' : ByteArray} {b b' : Bool} {t : TypeId} {zs cs : Array Value} (h : S1 W w a rb xb r b t zs cs) (hr : RR w' rb r' b') (hk : Kept rb w w') : S1 W w' a rb xb r' b' t zs cs :=
  ⟨h.s.call hr hk, (hk.same xb (box_lt h.x) h.nx).trans h.x, h.nx, h.na, h.hx⟩
theorem S1.put {W w : World} {a rb xb : Nat} {r : ByteArray} {b : Bool} {t : TypeId} {zs cs : Array Value} (h : S1 W w a rb xb r b t zs cs) (j : Nat) (v : Value) : S1 W (w.setCell ⟨xb, j, none⟩ v) a rb xb r b t zs (cs.setIfInBounds j v) :=
  ⟨⟨(Below.heap_setCell w ⟨xb, j, none⟩ v rb (fun e => h.nx e.symm)).trans h.s.rr, (Below.heap_setCell w ⟨xb, j, none⟩ v a h.na).trans h.s.res, h.s.bel.setCell h.hx _, h.s.ne, h.s.ha, h.s.hr⟩, cells_put (j := j) h.x v, h.nx, h.na, h.hx⟩

/-- what a number, bytes, or the rest are. -/
def NumPost (p : PK) (n : Nat) (s : ByteArray) (b : Bool) (d : Nat) (W : World) (e : Ending) (w' : World) : Prop := ∃ t r' b', e = .returned (.int .i64 ((numB t.data.toList : Nat) : Int)) ∧ RR w' d r' b' ∧ Kept d W w' ∧ Stp p s b t r' b' ∧ r'.size ≤ s.size
theorem rNum_post (p : PK) (n : Nat) (hp : ∀ x, passK p x = takeK n x) (hn : n ≤ 4) (W : World) (d : Nat) (s : ByteArray) (b : Bool) (hs : s.size ≤ 140737488355328) (h : RR W d s b) :
    Calls Tryz.prog 39 #[boxV d, .int .i64 n] W fun e w' => NumPost p n s b d W e w' := by
  refine (rNum_in W d n s b hs hn h).mono ?_
  rintro e w' ⟨rfl, h1, h2⟩
  exact ⟨_, _, _, rfl, h1, h2, stp_take p n hp s b, tkR_le _ _⟩
def AllPost (s : ByteArray) (b : Bool) (d : Nat) (W : World) (e : Ending) (w' : World) : Prop := ∃ r' b', e = .returned (.string s) ∧ RR w' d r' b' ∧ Kept d W w' ∧ Stp .hex s b s r' b' ∧ r'.size = 0
theorem rAll_post (W : World) (d : Nat) (s : ByteArray) (b : Bool) (hs : s.size ≤ 140737488355328) (h : RR W d s b) :
    Calls Tryz.prog 40 #[boxV d, .int .i64 1] W fun e w' => AllPost s b d W e w' := by
  refine (rAll_in W d s b hs h).mono ?_
  rintro e w' ⟨rfl, h1, h2⟩
  exact ⟨_, _, rfl, h1, h2, stp_all s b, rfl⟩
end Go.Proofs.YtdhcbaennpediaaGreatDoor

/- Key, as the document's own function takes it apart. -/
namespace Go.Proofs.YtdhcbaennpediaaGreatDoor
set_option linter.unusedVariables false
open Go.RowKit

def RefKeyPost (d : ByteArray) (e : Ending) : Prop := ((∃ t0 t1 t2 t3 : ByteArray, splitR 48 d = some [t0, t1, t2, t3] ∧ e = .returned (.tuple #[.agg #[.int .i64 ((numB t0.data.toList : Nat) : Int), .int .i64 ((numB t1.data.toList : Nat) : Int), .int .i64 ((numB t2.data.toList : Nat) : Int), .string t3], .bool true])) ∨ (splitR 48 d = none ∧ e = .returned (.tuple #[.agg #[.int .i64 0, .int .i64 0, .int .i64 0, .string ⟨#[]⟩], .bool false])))

set_option maxRecDepth 100000 in
set_option maxHeartbeats 8000000 in
theorem refKey_in (d : ByteArray) (hd : d.size ≤ 140737488355328) (W : World) :
    Calls Tryz.prog 13 #[.string d] W fun e w' => RefKeyPost d e ∧ Below W.heap.size W w' := by
  have hmo : Tryz.prog.follows Departure.mixedOrders = true := by kernel_rfl
  have Q := Hid.mk (S0.first W 37 #[.int .i64 0, .int .i64 0, .int .i64 0, .string ⟨#[]⟩] d)
  obtain ⟨r0, hr0⟩ : ∃ r0, r0 = d := ⟨_, rfl⟩
  have hz0 : r0.size ≤ 140737488355328 := by rw [hr0]; exact hd
  rw [show S0 W ((W.alloc (.cells #[.int .i64 0, .int .i64 0, .int .i64 0, .string ⟨#[]⟩] 37)).alloc (.cells #[.string d, .bool false] 90)) W.heap.size (W.heap.size + 1) d false 37 #[.int .i64 0, .int .i64 0, .int .i64 0, .string ⟨#[]⟩] = S0 W ((W.alloc (.cells #[.int .i64 0, .int .i64 0, .int .i64 0, .string ⟨#[]⟩] 37)).alloc (.cells #[.string d, .bool false] 90)) W.heap.size (W.heap.size + 1) r0 false 37 #[.int .i64 0, .int .i64 0, .int .i64 0, .string ⟨#[]⟩] by rw [hr0]] at Q
  have HR0 := Hid.mk hr0
  clear hr0
  go_enter Tryz.func13, Tryz.ntmps13
  go_wp2_with fail
  refine (rNum_post (.num 2) 2 (fun _ => rfl) (by omega) _ (W.heap.size + 1) r0 false hz0 Q.out.rr).mono ?_
  rintro e w1 ⟨t0, r1, b1, rfl, hr, hk, hs0, hz⟩
  have hz1 : r1.size ≤ 140737488355328 := by omega
  replace Q := Hid.mk (Q.out.call hr hk)
  have P0 := Hid.mk hs0
  clear hr hk hs0 hz hz0
  replace Q := Hid.mk (Q.out.new #[.int .i64 ((numB t0.data.toList : Nat) : Int), .int .i64 0, .int .i64 0, .string ⟨#[]⟩])
  go_wp2_with fail
  refine (rNum_post (.num 1) 1 (fun _ => rfl) (by omega) _ (W.heap.size + 1) r1 b1 hz1 Q.out.s.rr).mono ?_
  rintro e w2 ⟨t1, r2, b2, rfl, hr, hk, hs1, hz⟩
  have hz2 : r2.size ≤ 140737488355328 := by omega
  replace Q := Hid.mk (Q.out.call hr hk)
  have P1 := Hid.mk hs1
  clear hr hk hs1 hz hz1
  obtain ⟨g1, f1⟩ := cells_at (v := .int .i64 0) (j := 1) Q.out.x rfl
  replace Q := Hid.mk (Q.out.put 1 (.int .i64 ((numB t1.data.toList : Nat) : Int)))
  go_wp2_with fail
  refine (rNum_post (.num 1) 1 (fun _ => rfl) (by omega) _ (W.heap.size + 1) r2 b2 hz2 Q.out.s.rr).mono ?_
  rintro e w3 ⟨t2, r3, b3, rfl, hr, hk, hs2, hz⟩
  have hz3 : r3.size ≤ 140737488355328 := by omega
  replace Q := Hid.mk (Q.out.call hr hk)
  have P2 := Hid.mk hs2
  clear hr hk hs2 hz hz2
  obtain ⟨g2, f2⟩ := cells_at (v := .int .i64 0) (j := 2) Q.out.x rfl
  replace Q := Hid.mk (Q.out.put 2 (.int .i64 ((numB t2.data.toList : Nat) : Int)))
  go_wp2_with fail
  refine (rAll_post _ (W.heap.size + 1) r3 b3 hz3 Q.out.s.rr).mono ?_
  rintro e w4 ⟨r4, b4, rfl, hr, hk, hs3, hz⟩
  have hz4 : r4.size ≤ 140737488355328 := by omega
  replace Q := Hid.mk (Q.out.call hr hk)
  have P3 := Hid.mk hs3
  have HZ := Hid.mk hz
  clear hr hk hs3 hz hz3
  obtain ⟨g3, f3⟩ := cells_at (v := .string ⟨#[]⟩) (j := 3) Q.out.x rfl
  replace Q := Hid.mk (Q.out.put 3 (.string r3))
  have HC : Hid (Chn (formOf 48) r0 false [t0, t1, t2, r3] r4 b4) := (Chn.cons P0.out (Chn.cons P1.out (Chn.cons P2.out (Chn.cons P3.out Chn.nil))))
  have HSP := Hid.mk (HC.out.split (by omega))
  rw [HR0.out] at HSP
  clear HC P0 P1 P2 P3
  obtain ⟨u0, v0⟩ := Q.out.s.rr.c0
  obtain ⟨u1, v1⟩ := Q.out.s.rr.c1
  obtain ⟨x0, y0⟩ := cells_at (v := .int .i64 ((numB t0.data.toList : Nat) : Int)) (j := 0) Q.out.x rfl
  obtain ⟨x1, y1⟩ := cells_at (v := .int .i64 ((numB t1.data.toList : Nat) : Int)) (j := 1) Q.out.x rfl
  obtain ⟨x2, y2⟩ := cells_at (v := .int .i64 ((numB t2.data.toList : Nat) : Int)) (j := 2) Q.out.x rfl
  obtain ⟨x3, y3⟩ := cells_at (v := .string r3) (j := 3) Q.out.x rfl
  obtain ⟨a0, c0⟩ := cells_at (v := .int .i64 0) (j := 0) Q.out.s.res rfl
  obtain ⟨a1, c1⟩ := cells_at (v := .int .i64 0) (j := 1) Q.out.s.res rfl
  obtain ⟨a2, c2⟩ := cells_at (v := .int .i64 0) (j := 2) Q.out.s.res rfl
  obtain ⟨a3, c3⟩ := cells_at (v := .string ⟨#[]⟩) (j := 3) Q.out.s.res rfl
  clear g1 f1 g2 f2
  rcases HSP.out with ⟨e1, e2, e3, e4⟩ | ⟨e1, e4⟩
  · have HE := Hid.mk e4
    subst e1
    clear e4 HSP
    go_wp2
    have hfin : (((((w4.setCell ⟨w1.heap.size, 3, none⟩ (.string r3)).setCell ⟨W.heap.size, 0, none⟩ (.int .i64 ((numB t0.data.toList : Nat) : Int))).setCell ⟨W.heap.size, 1, none⟩ (.int .i64 ((numB t1.data.toList : Nat) : Int))).setCell ⟨W.heap.size, 2, none⟩ (.int .i64 ((numB t2.data.toList : Nat) : Int))).setCell ⟨W.heap.size, 3, none⟩ (.string r3)).heap[W.heap.size]? = some (.cells #[.int .i64 ((numB t0.data.toList : Nat) : Int), .int .i64 ((numB t1.data.toList : Nat) : Int), .int .i64 ((numB t2.data.toList : Nat) : Int), .string r3] 37 (0, 0)) := cells_put (j := 3) (cells_put (j := 2) (cells_put (j := 1) (cells_put (j := 0) (Q.out.s.res) (.int .i64 ((numB t0.data.toList : Nat) : Int))) (.int .i64 ((numB t1.data.toList : Nat) : Int))) (.int .i64 ((numB t2.data.toList : Nat) : Int))) (.string r3)
    refine bodyPost_ret (v := .tuple #[.agg #[.int .i64 ((numB t0.data.toList : Nat) : Int), .int .i64 ((numB t1.data.toList : Nat) : Int), .int .i64 ((numB t2.data.toList : Nat) : Int), .string r3], .bool true]) (by simp [results, Tryz.results13, go_sem, (cells_at (v := .int .i64 ((numB t0.data.toList : Nat) : Int)) (j := 0) hfin rfl).1, (cells_at (v := .int .i64 ((numB t1.data.toList : Nat) : Int)) (j := 1) hfin rfl).1, (cells_at (v := .int .i64 ((numB t2.data.toList : Nat) : Int)) (j := 2) hfin rfl).1, (cells_at (v := .string r3) (j := 3) hfin rfl).1]) rfl ⟨.inl ⟨t0, t1, t2, r3, HE.out, rfl⟩, ((((Q.out.s.bel).setCell (p := ⟨W.heap.size, 0, none⟩) (Nat.le_refl _) _).setCell (p := ⟨W.heap.size, 1, none⟩) (Nat.le_refl _) _).setCell (p := ⟨W.heap.size, 2, none⟩) (Nat.le_refl _) _).setCell (p := ⟨W.heap.size, 3, none⟩) (Nat.le_refl _) _⟩
  · have HE := Hid.mk e4
    clear e4 HSP
    cases b4 with
    | true =>
      clear e1
      go_wp2
      have hfin : (((((w4.setCell ⟨w1.heap.size, 3, none⟩ (.string r3)).setCell ⟨W.heap.size, 0, none⟩ (.int .i64 0)).setCell ⟨W.heap.size, 1, none⟩ (.int .i64 0)).setCell ⟨W.heap.size, 2, none⟩ (.int .i64 0)).setCell ⟨W.heap.size, 3, none⟩ (.string ⟨#[]⟩)).heap[W.heap.size]? = some (.cells #[.int .i64 0, .int .i64 0, .int .i64 0, .string ⟨#[]⟩] 37 (0, 0)) := cells_put (j := 3) (cells_put (j := 2) (cells_put (j := 1) (cells_put (j := 0) (Q.out.s.res) (.int .i64 0)) (.int .i64 0)) (.int .i64 0)) (.string ⟨#[]⟩)
      refine bodyPost_ret (v := .tuple #[.agg #[.int .i64 0, .int .i64 0, .int .i64 0, .string ⟨#[]⟩], .bool false]) (by simp [results, Tryz.results13, go_sem, (cells_at (v := .int .i64 0) (j := 0) hfin rfl).1, (cells_at (v := .int .i64 0) (j := 1) hfin rfl).1, (cells_at (v := .int .i64 0) (j := 2) hfin rfl).1, (cells_at (v := .string ⟨#[]⟩) (j := 3) hfin rfl).1]) rfl ⟨.inr ⟨HE.out, rfl⟩, ((((Q.out.s.bel).setCell (p := ⟨W.heap.size, 0, none⟩) (Nat.le_refl _) _).setCell (p := ⟨W.heap.size, 1, none⟩) (Nat.le_refl _) _).setCell (p := ⟨W.heap.size, 2, none⟩) (Nat.le_refl _) _).setCell (p := ⟨W.heap.size, 3, none⟩) (Nat.le_refl _) _⟩
    | false =>
      have e3 : 2000 < d.size := by
        have := HZ.out
        rcases e1 with h | h | h
        · cases h
        · omega
        · exact h
      clear e1
      go_wp2
      have hfin : (((((w4.setCell ⟨w1.heap.size, 3, none⟩ (.string r3)).setCell ⟨W.heap.size, 0, none⟩ (.int .i64 0)).setCell ⟨W.heap.size, 1, none⟩ (.int .i64 0)).setCell ⟨W.heap.size, 2, none⟩ (.int .i64 0)).setCell ⟨W.heap.size, 3, none⟩ (.string ⟨#[]⟩)).heap[W.heap.size]? = some (.cells #[.int .i64 0, .int .i64 0, .int .i64 0, .string ⟨#[]⟩] 37 (0, 0)) := cells_put (j := 3) (cells_put (j := 2) (cells_put (j := 1) (cells_put (j := 0) (Q.out.s.res) (.int .i64 0)) (.int .i64 0)) (.int .i64 0)) (.string ⟨#[]⟩)
      refine bodyPost_ret (v := .tuple #[.agg #[.int .i64 0, .int .i64 0, .int .i64 0, .string ⟨#[]⟩], .bool false]) (by simp [results, Tryz.results13, go_sem, (cells_at (v := .int .i64 0) (j := 0) hfin rfl).1, (cells_at (v := .int .i64 0) (j := 1) hfin rfl).1, (cells_at (v := .int .i64 0) (j := 2) hfin rfl).1, (cells_at (v := .string ⟨#[]⟩) (j := 3) hfin rfl).1]) rfl ⟨.inr ⟨HE.out, rfl⟩, ((((Q.out.s.bel).setCell (p := ⟨W.heap.size, 0, none⟩) (Nat.le_refl _) _).setCell (p := ⟨W.heap.size, 1, none⟩) (Nat.le_refl _) _).setCell (p := ⟨W.heap.size, 2, none⟩) (Nat.le_refl _) _).setCell (p := ⟨W.heap.size, 3, none⟩) (Nat.le_refl _) _⟩
end Go.Proofs.YtdhcbaennpediaaGreatDoor

/- Ds, as the document's own function takes it apart. -/
namespace Go.Proofs.YtdhcbaennpediaaGreatDoor
set_option linter.unusedVariables false
open Go.RowKit

def RefDsPost (d : ByteArray) (e : Ending) : Prop := ((∃ t0 t1 t2 t3 : ByteArray, splitR 43 d = some [t0, t1, t2, t3] ∧ e = .returned (.tuple #[.agg #[.int .i64 ((numB t0.data.toList : Nat) : Int), .int .i64 ((numB t1.data.toList : Nat) : Int), .int .i64 ((numB t2.data.toList : Nat) : Int), .string t3], .bool true])) ∨ (splitR 43 d = none ∧ e = .returned (.tuple #[.agg #[.int .i64 0, .int .i64 0, .int .i64 0, .string ⟨#[]⟩], .bool false])))

set_option maxRecDepth 100000 in
set_option maxHeartbeats 8000000 in
theorem refDs_in (d : ByteArray) (hd : d.size ≤ 140737488355328) (W : World) :
    Calls Tryz.prog 15 #[.string d] W fun e w' => RefDsPost d e ∧ Below W.heap.size W w' := by
  have hmo : Tryz.prog.follows Departure.mixedOrders = true := by kernel_rfl
  have Q := Hid.mk (S0.first W 43 #[.int .i64 0, .int .i64 0, .int .i64 0, .string ⟨#[]⟩] d)
  obtain ⟨r0, hr0⟩ : ∃ r0, r0 = d := ⟨_, rfl⟩
  have hz0 : r0.size ≤ 140737488355328 := by rw [hr0]; exact hd
  rw [show S0 W ((W.alloc (.cells #[.int .i64 0, .int .i64 0, .int .i64 0, .string ⟨#[]⟩] 43)).alloc (.cells #[.string d, .bool false] 90)) W.heap.size (W.heap.size + 1) d false 43 #[.int .i64 0, .int .i64 0, .int .i64 0, .string ⟨#[]⟩] = S0 W ((W.alloc (.cells #[.int .i64 0, .int .i64 0, .int .i64 0, .string ⟨#[]⟩] 43)).alloc (.cells #[.string d, .bool false] 90)) W.heap.size (W.heap.size + 1) r0 false 43 #[.int .i64 0, .int .i64 0, .int .i64 0, .string ⟨#[]⟩] by rw [hr0]] at Q
  have HR0 := Hid.mk hr0
  clear hr0
  go_enter Tryz.func15, Tryz.ntmps15
  go_wp2_with fail
  refine (rNum_post (.num 2) 2 (fun _ => rfl) (by omega) _ (W.heap.size + 1) r0 false hz0 Q.out.rr).mono ?_
  rintro e w1 ⟨t0, r1, b1, rfl, hr, hk, hs0, hz⟩
  have hz1 : r1.size ≤ 140737488355328 := by omega
  replace Q := Hid.mk (Q.out.call hr hk)
  have P0 := Hid.mk hs0
  clear hr hk hs0 hz hz0
  replace Q := Hid.mk (Q.out.new #[.int .i64 ((numB t0.data.toList : Nat) : Int), .int .i64 0, .int .i64 0, .string ⟨#[]⟩])
  go_wp2_with fail
  refine (rNum_post (.num 1) 1 (fun _ => rfl) (by omega) _ (W.heap.size + 1) r1 b1 hz1 Q.out.s.rr).mono ?_
  rintro e w2 ⟨t1, r2, b2, rfl, hr, hk, hs1, hz⟩
  have hz2 : r2.size ≤ 140737488355328 := by omega
  replace Q := Hid.mk (Q.out.call hr hk)
  have P1 := Hid.mk hs1
  clear hr hk hs1 hz hz1
  obtain ⟨g1, f1⟩ := cells_at (v := .int .i64 0) (j := 1) Q.out.x rfl
  replace Q := Hid.mk (Q.out.put 1 (.int .i64 ((numB t1.data.toList : Nat) : Int)))
  go_wp2_with fail
  refine (rNum_post (.num 1) 1 (fun _ => rfl) (by omega) _ (W.heap.size + 1) r2 b2 hz2 Q.out.s.rr).mono ?_
  rintro e w3 ⟨t2, r3, b3, rfl, hr, hk, hs2, hz⟩
  have hz3 : r3.size ≤ 140737488355328 := by omega
  replace Q := Hid.mk (Q.out.call hr hk)
  have P2 := Hid.mk hs2
  clear hr hk hs2 hz hz2
  obtain ⟨g2, f2⟩ := cells_at (v := .int .i64 0) (j := 2) Q.out.x rfl
  replace Q := Hid.mk (Q.out.put 2 (.int .i64 ((numB t2.data.toList : Nat) : Int)))
  go_wp2_with fail
  refine (rAll_post _ (W.heap.size + 1) r3 b3 hz3 Q.out.s.rr).mono ?_
  rintro e w4 ⟨r4, b4, rfl, hr, hk, hs3, hz⟩
  have hz4 : r4.size ≤ 140737488355328 := by omega
  replace Q := Hid.mk (Q.out.call hr hk)
  have P3 := Hid.mk hs3
  have HZ := Hid.mk hz
  clear hr hk hs3 hz hz3
  obtain ⟨g3, f3⟩ := cells_at (v := .string ⟨#[]⟩) (j := 3) Q.out.x rfl
  replace Q := Hid.mk (Q.out.put 3 (.string r3))
  have HC : Hid (Chn (formOf 43) r0 false [t0, t1, t2, r3] r4 b4) := (Chn.cons P0.out (Chn.cons P1.out (Chn.cons P2.out (Chn.cons P3.out Chn.nil))))
  have HSP := Hid.mk (HC.out.split (by omega))
  rw [HR0.out] at HSP
  clear HC P0 P1 P2 P3
  obtain ⟨u0, v0⟩ := Q.out.s.rr.c0
  obtain ⟨u1, v1⟩ := Q.out.s.rr.c1
  obtain ⟨x0, y0⟩ := cells_at (v := .int .i64 ((numB t0.data.toList : Nat) : Int)) (j := 0) Q.out.x rfl
  obtain ⟨x1, y1⟩ := cells_at (v := .int .i64 ((numB t1.data.toList : Nat) : Int)) (j := 1) Q.out.x rfl
  obtain ⟨x2, y2⟩ := cells_at (v := .int .i64 ((numB t2.data.toList : Nat) : Int)) (j := 2) Q.out.x rfl
  obtain ⟨x3, y3⟩ := cells_at (v := .string r3) (j := 3) Q.out.x rfl
  obtain ⟨a0, c0⟩ := cells_at (v := .int .i64 0) (j := 0) Q.out.s.res rfl
  obtain ⟨a1, c1⟩ := cells_at (v := .int .i64 0) (j := 1) Q.out.s.res rfl
  obtain ⟨a2, c2⟩ := cells_at (v := .int .i64 0) (j := 2) Q.out.s.res rfl
  obtain ⟨a3, c3⟩ := cells_at (v := .string ⟨#[]⟩) (j := 3) Q.out.s.res rfl
  clear g1 f1 g2 f2
  rcases HSP.out with ⟨e1, e2, e3, e4⟩ | ⟨e1, e4⟩
  · have HE := Hid.mk e4
    subst e1
    clear e4 HSP
    go_wp2
    have hfin : (((((w4.setCell ⟨w1.heap.size, 3, none⟩ (.string r3)).setCell ⟨W.heap.size, 0, none⟩ (.int .i64 ((numB t0.data.toList : Nat) : Int))).setCell ⟨W.heap.size, 1, none⟩ (.int .i64 ((numB t1.data.toList : Nat) : Int))).setCell ⟨W.heap.size, 2, none⟩ (.int .i64 ((numB t2.data.toList : Nat) : Int))).setCell ⟨W.heap.size, 3, none⟩ (.string r3)).heap[W.heap.size]? = some (.cells #[.int .i64 ((numB t0.data.toList : Nat) : Int), .int .i64 ((numB t1.data.toList : Nat) : Int), .int .i64 ((numB t2.data.toList : Nat) : Int), .string r3] 43 (0, 0)) := cells_put (j := 3) (cells_put (j := 2) (cells_put (j := 1) (cells_put (j := 0) (Q.out.s.res) (.int .i64 ((numB t0.data.toList : Nat) : Int))) (.int .i64 ((numB t1.data.toList : Nat) : Int))) (.int .i64 ((numB t2.data.toList : Nat) : Int))) (.string r3)
    refine bodyPost_ret (v := .tuple #[.agg #[.int .i64 ((numB t0.data.toList : Nat) : Int), .int .i64 ((numB t1.data.toList : Nat) : Int), .int .i64 ((numB t2.data.toList : Nat) : Int), .string r3], .bool true]) (by simp [results, Tryz.results15, go_sem, (cells_at (v := .int .i64 ((numB t0.data.toList : Nat) : Int)) (j := 0) hfin rfl).1, (cells_at (v := .int .i64 ((numB t1.data.toList : Nat) : Int)) (j := 1) hfin rfl).1, (cells_at (v := .int .i64 ((numB t2.data.toList : Nat) : Int)) (j := 2) hfin rfl).1, (cells_at (v := .string r3) (j := 3) hfin rfl).1]) rfl ⟨.inl ⟨t0, t1, t2, r3, HE.out, rfl⟩, ((((Q.out.s.bel).setCell (p := ⟨W.heap.size, 0, none⟩) (Nat.le_refl _) _).setCell (p := ⟨W.heap.size, 1, none⟩) (Nat.le_refl _) _).setCell (p := ⟨W.heap.size, 2, none⟩) (Nat.le_refl _) _).setCell (p := ⟨W.heap.size, 3, none⟩) (Nat.le_refl _) _⟩
  · have HE := Hid.mk e4
    clear e4 HSP
    cases b4 with
    | true =>
      clear e1
      go_wp2
      have hfin : (((((w4.setCell ⟨w1.heap.size, 3, none⟩ (.string r3)).setCell ⟨W.heap.size, 0, none⟩ (.int .i64 0)).setCell ⟨W.heap.size, 1, none⟩ (.int .i64 0)).setCell ⟨W.heap.size, 2, none⟩ (.int .i64 0)).setCell ⟨W.heap.size, 3, none⟩ (.string ⟨#[]⟩)).heap[W.heap.size]? = some (.cells #[.int .i64 0, .int .i64 0, .int .i64 0, .string ⟨#[]⟩] 43 (0, 0)) := cells_put (j := 3) (cells_put (j := 2) (cells_put (j := 1) (cells_put (j := 0) (Q.out.s.res) (.int .i64 0)) (.int .i64 0)) (.int .i64 0)) (.string ⟨#[]⟩)
      refine bodyPost_ret (v := .tuple #[.agg #[.int .i64 0, .int .i64 0, .int .i64 0, .string ⟨#[]⟩], .bool false]) (by simp [results, Tryz.results15, go_sem, (cells_at (v := .int .i64 0) (j := 0) hfin rfl).1, (cells_at (v := .int .i64 0) (j := 1) hfin rfl).1, (cells_at (v := .int .i64 0) (j := 2) hfin rfl).1, (cells_at (v := .string ⟨#[]⟩) (j := 3) hfin rfl).1]) rfl ⟨.inr ⟨HE.out, rfl⟩, ((((Q.out.s.bel).setCell (p := ⟨W.heap.size, 0, none⟩) (Nat.le_refl _) _).setCell (p := ⟨W.heap.size, 1, none⟩) (Nat.le_refl _) _).setCell (p := ⟨W.heap.size, 2, none⟩) (Nat.le_refl _) _).setCell (p := ⟨W.heap.size, 3, none⟩) (Nat.le_refl _) _⟩
    | false =>
      have e3 : 2000 < d.size := by
        have := HZ.out
        rcases e1 with h | h | h
        · cases h
        · omega
        · exact h
      clear e1
      go_wp2
      have hfin : (((((w4.setCell ⟨w1.heap.size, 3, none⟩ (.string r3)).setCell ⟨W.heap.size, 0, none⟩ (.int .i64 0)).setCell ⟨W.heap.size, 1, none⟩ (.int .i64 0)).setCell ⟨W.heap.size, 2, none⟩ (.int .i64 0)).setCell ⟨W.heap.size, 3, none⟩ (.string ⟨#[]⟩)).heap[W.heap.size]? = some (.cells #[.int .i64 0, .int .i64 0, .int .i64 0, .string ⟨#[]⟩] 43 (0, 0)) := cells_put (j := 3) (cells_put (j := 2) (cells_put (j := 1) (cells_put (j := 0) (Q.out.s.res) (.int .i64 0)) (.int .i64 0)) (.int .i64 0)) (.string ⟨#[]⟩)
      refine bodyPost_ret (v := .tuple #[.agg #[.int .i64 0, .int .i64 0, .int .i64 0, .string ⟨#[]⟩], .bool false]) (by simp [results, Tryz.results15, go_sem, (cells_at (v := .int .i64 0) (j := 0) hfin rfl).1, (cells_at (v := .int .i64 0) (j := 1) hfin rfl).1, (cells_at (v := .int .i64 0) (j := 2) hfin rfl).1, (cells_at (v := .string ⟨#[]⟩) (j := 3) hfin rfl).1]) rfl ⟨.inr ⟨HE.out, rfl⟩, ((((Q.out.s.bel).setCell (p := ⟨W.heap.size, 0, none⟩) (Nat.le_refl _) _).setCell (p := ⟨W.heap.size, 1, none⟩) (Nat.le_refl _) _).setCell (p := ⟨W.heap.size, 2, none⟩) (Nat.le_refl _) _).setCell (p := ⟨W.heap.size, 3, none⟩) (Nat.le_refl _) _⟩
end Go.Proofs.YtdhcbaennpediaaGreatDoor
