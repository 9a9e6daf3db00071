/- Layer 13: SplitN at one byte. -/
import Derived.Test.YtpognbkdafnfjaaDoorAcTt
namespace Go.Proofs.YtpognbkdafnfjaaDoor
set_option linter.unusedVariables false
set_option linter.unusedSimpArgs false
open Go.RowKit

theorem size_list (s : ByteArray) : s.data.toList.length = s.size := rfl
theorem ext_list (s : ByteArray) (a b : Nat) : (s.extract a b).data.toList = (s.data.toList.take b).drop a := by
  rw [ByteArray.data_extract, Array.toList_extract, List.extract_eq_take_drop, List.drop_take]
theorem idx_lt {l : List UInt8} {c : UInt8} (h : 0 ≤ Lib.indexByte l c) : (Lib.indexByte l c).toNat < l.length := by
  induction l with
  | nil => simp [Lib.indexByte] at h
  | cons b l ih =>
    rw [Lib.indexByte] at h ⊢
    split
    · simp
    · rename_i h1
      rw [if_neg h1] at h
      split
      · rename_i h2
        rw [if_pos h2] at h
        simp at h
      · rename_i h2
        rw [if_neg h2] at h
        have hg := Lib.indexByte_ge l c
        have h3 : Lib.indexByte l c ≠ -1 := by simpa using h2
        have := ih (by omega)
        simp only [List.length_cons]
        omega
theorem spl_stop {c : UInt8} {l : List UInt8} (h : Lib.indexByte l c < 0) (k : Nat) : spl c k l = [l] := by
  cases k with
  | zero => rfl
  | succ k => rw [spl, if_pos h]
def spR (ps : List (List UInt8)) (n : Nat) : Array Value := (sv ps ++ List.replicate n (Value.string ⟨#[]⟩)).toArray
theorem sv_len (l : List (List UInt8)) : (sv l).length = l.length := by simp [sv]
theorem spR_at {ps : List (List UInt8)} {n k : Nat} (hk : ps.length = k) (hn : 0 < n) : (spR ps n)[k]? = some (.string ⟨#[]⟩) := by
  unfold spR
  rw [List.getElem?_toArray, List.getElem?_append_right (by rw [sv_len]; omega), List.getElem?_replicate, if_pos (by rw [sv_len]; omega)]
theorem spR_size (ps : List (List UInt8)) (n : Nat) : (spR ps n).size = ps.length + n := by simp [spR, sv]
theorem spR_set {ps : List (List UInt8)} {n k : Nat} (hk : ps.length = k) (x : ByteArray) : (spR ps (n + 1)).setIfInBounds k (.string x) = spR (ps ++ [x.data.toList]) n := by
  unfold spR
  rw [List.setIfInBounds_toArray, List.set_append, if_neg (by rw [sv_len]; omega), sv_len, hk, Nat.sub_self, List.replicate_succ, List.set_cons_zero]
  unfold sv
  rw [List.map_append, List.append_assoc]
  rfl
/-- how the cutting stands. -/
structure SpI (c : UInt8) (L : List UInt8) (n i : Nat) (ps : List (List UInt8)) (r : List UInt8) : Prop where
  len : ps.length = i
  le : r.length + i ≤ L.length
  eq : spl c n L = ps ++ spl c (n - i) r
theorem SpI.step {c : UInt8} {L : List UInt8} {n i : Nat} {ps : List (List UInt8)} {r : List UInt8} (h : SpI c L n i ps r) (hi : i < n) (hx : 0 ≤ Lib.indexByte r c) : SpI c L n (i + 1) (ps ++ [r.take (Lib.indexByte r c).toNat]) (r.drop ((Lib.indexByte r c).toNat + 1)) := by
  have hl := idx_lt hx
  refine ⟨by simp [h.len], by have := h.le; simp; omega, ?_⟩
  rw [h.eq, show n - i = (n - (i + 1)) + 1 by omega, spl, if_neg (by omega), List.append_assoc]
  rfl
theorem SpI.stop {c : UInt8} {L : List UInt8} {n i : Nat} {ps : List (List UInt8)} {r : List UInt8} (h : SpI c L n i ps r) (hx : Lib.indexByte r c < 0 ∨ i = n ∨ i = L.length) : spl c n L = ps ++ [r] := by
  rw [h.eq]
  congr 1
  rcases hx with hx | hx | hx
  · exact spl_stop hx _
  · rw [hx, Nat.sub_self]; rfl
  · have : r = [] := List.eq_nil_of_length_eq_zero (by have := h.le; omega)
    subst this
    exact spl_stop (c := c) (l := []) (by show (-1 : Int) < 0; decide) _
def GsRel (w : World) (c : UInt8) (s : ByteArray) (n M : Nat) (r i : Value) (wr : World) : Prop :=
  ∃ (k : Nat) (ps : List (List UInt8)) (x : ByteArray), r = .string x ∧ i = .int .i64 (k : Int) ∧ k ≤ M ∧ SpI c s.data.toList n k ps x.data.toList ∧ wr.heap[w.heap.size]? = some (.cells (spR ps (M + 1 - k)) 9 (0, 0)) ∧ Below w.heap.size w wr
def SpPost (w : World) (l : List (List UInt8)) (e : Ending) (w' : World) : Prop :=
  ∃ (cap m : Nat), e = .returned (.slice (some ⟨w.heap.size, 0, none⟩) l.length cap) ∧ l.length ≤ cap ∧ cap ≤ 1000 ∧ w'.heap[w.heap.size]? = some (.cells (spR l m) 9 (0, 0)) ∧ Below w.heap.size w w'

set_option maxRecDepth 100000 in
set_option maxHeartbeats 4000000 in
theorem gs_in (s : ByteArray) (c : UInt8) (n : Nat) (hn : n ≤ 100) (hs : s.size ≤ 9223372036854775000) (w : World) :
    Calls Tryd.prog 52 #[.string s, .string ⟨#[c]⟩, .int .i64 0, .int .i64 ((n + 1 : Nat) : Int)] w fun e w' => SpPost w (spl c n s.data.toList) e w' := by
  obtain ⟨M, hM⟩ : ∃ M, min n s.size = M := ⟨_, rfl⟩
  obtain ⟨L, hL⟩ : ∃ L, spl c n s.data.toList = L := ⟨_, rfl⟩
  have HX := Hid.mk (fun (x : ByteArray) => Tryd.strings_Index_one x c)
  obtain ⟨n1, hn1⟩ : ∃ n1, n + 1 = n1 := ⟨_, rfl⟩
  obtain ⟨M1, hM1⟩ : ∃ M1, M + 1 = M1 := ⟨_, rfl⟩
  have hmk := fun W => mk_str W M1 (by omega)
  have hmin : min ((n1 : Nat) : Int) ((s.size : Int) + 1) = ((M1 : Nat) : Int) := by omega
  have hsub : (M1 : Int) - 1 = (M : Int) := by omega
  rw [hL, hn1]
  have HL := Hid.mk hL
  have HST : Hid (GsRel w c s n M (.string s) (.int .i64 0) (w.alloc (.cells (Array.replicate M1 (.string ⟨#[]⟩)) 9))) := by
    refine ⟨0, [], s, rfl, rfl, Nat.zero_le _, ⟨rfl, Nat.le_refl _, by simp⟩, ?_, by go_grown⟩
    rw [heap_alloc_last]
    simp [spR, sv, hM1]
  have hz0 : (((n1 : Nat) : Int) == 0) = false := by simp; omega
  have HM : Hid (M = n ∨ M = s.size) := by unfold Hid; omega
  clear hL
  go_enter Tryd.func52, Tryd.ntmps52
  go_wp2
  go_loopw [0, 10] (fun r i wr => GsRel w c s n M r i wr) (fun _ i _ => M + 1 - (intOf i).toNat)
  case atStart => exact HST.out
  case round =>
    obtain ⟨k, ps, x, rfl, rfl, hk, I, hbx, hbel⟩ := hrel
    have hps := I.len
    have hxs : x.size ≤ s.size := by have := I.le; rw [size_list, size_list] at this; omega
    have hc : wr.cell? ⟨w.heap.size, k, none⟩ = some (.string ⟨#[]⟩) := cell_of_heap hbx (spR_at hps (by omega))
    have hf : wr.frozen? ⟨w.heap.size, k, none⟩ = false := by
      unfold World.frozen?
      rw [show (⟨w.heap.size, k, none⟩ : Addr).block = w.heap.size from rfl, hbx]
      simp
    have hset : ∀ y : ByteArray, (wr.setCell ⟨w.heap.size, k, none⟩ (.string y)).heap[w.heap.size]? = some (.cells (spR (ps ++ [y.data.toList]) (M - k)) 9 (0, 0)) := fun y => by
      have : (wr.setCell ⟨w.heap.size, k, none⟩ (.string y)).heap[w.heap.size]? = some (.cells ((spR ps (M + 1 - k)).setIfInBounds k (.string y)) 9 (0, 0)) := by
        simp only [World.setCell, Array.getElem?_modify, if_true, hbx]
        rfl
      rw [this, show M + 1 - k = (M - k) + 1 by omega, spR_set hps]
    have HE : Hid (Lib.indexByte x.data.toList c < 0 ∨ k = M → SpPost w L (.returned (.slice (some ⟨w.heap.size, 0, none⟩) (k + 1) M1)) (wr.setCell ⟨w.heap.size, k, none⟩ (.string x))) := fun hx => by
      have he : L = ps ++ [x.data.toList] := by
        rw [← HL.out]
        refine I.stop ?_
        rcases hx with h | h
        · exact .inl h
        · rcases HM.out with h' | h'
          · exact .inr (.inl (by omega))
          · exact .inr (.inr (by rw [size_list]; omega))
      refine ⟨M1, M - k, ?_, ?_, by omega, ?_, hbel.setCell (p := ⟨w.heap.size, k, none⟩) (Nat.le_refl _) _⟩
      · rw [he]; simp [hps]
      · rw [he]; simp [hps]; omega
      · rw [he]; exact hset x
    have hki : (k : Int) < (M1 : Int) := by omega
    by_cases hlt : k < M
    · go_wp2_with fail
      refine (HX.out _ _).mono ?_
      rintro e w2 ⟨rfl, hw2⟩
      rw [hw2]
      clear hw2 w2
      by_cases hx : 0 ≤ Lib.indexByte x.data.toList c
      · have hl := idx_lt hx
        rw [size_list] at hl
        have I2 := I.step (by omega) hx
        generalize Lib.indexByte x.data.toList c = j at *
        obtain ⟨J, rfl⟩ : ∃ J : Nat, j = J := ⟨j.toNat, by omega⟩
        rw [Int.toNat_natCast] at hl I2
        have e1 : (x.extract 0 J).data.toList = x.data.toList.take J := by rw [ext_list]; rfl
        have e2 : (x.extract (J + 1) x.size).data.toList = x.data.toList.drop (J + 1) := by
          rw [ext_list, List.take_of_length_le (by rw [size_list]; exact Nat.le_refl _)]
        rw [← e1, ← e2] at I2
        have HN : Hid (GsRel w c s n M (.string (x.extract (J + 1) x.size)) (.int .i64 ((k : Int) + 1)) (wr.setCell ⟨w.heap.size, k, none⟩ (.string (x.extract 0 J)))) :=
          ⟨k + 1, _, _, rfl, by go_num, by omega, I2, by rw [hset, show M + 1 - (k + 1) = M - k by omega], hbel.setCell (p := ⟨w.heap.size, k, none⟩) (Nat.le_refl _) _⟩
        clear I I2 e1 e2 HE hset hbx hbel
        go_wp2
        exact ⟨HN.out, by simp [intOf]; omega⟩
      · have hE := HE.out (.inl (by omega))
        have HE2 := Hid.mk hE
        clear I HE hset hbx hbel hE
        go_wp2
        go_ret
        exact HE2.out
    · obtain rfl : k = M := by omega
      have hE := HE.out (.inr rfl)
      rw [hM1] at hE
      have HE2 := Hid.mk hE
      clear I HE hset hbx hbel hE
      go_wp2
      go_ret
      exact HE2.out
set_option maxRecDepth 100000 in
theorem splitn_in (s : ByteArray) (c : UInt8) (n : Nat) (hn : n ≤ 100) (hs : s.size ≤ 9223372036854775000) (w : World) :
    Calls Tryd.prog 42 #[.string s, .string ⟨#[c]⟩, .int .i64 ((n + 1 : Nat) : Int)] w fun e w' => SpPost w (spl c n s.data.toList) e w' := by
  have H := Hid.mk (gs_in s c n hn hs w)
  generalize spl c n s.data.toList = L at *
  generalize n + 1 = n1 at *
  go_enter Tryd.func42, Tryd.ntmps42
  go_wp2_with fail
  refine H.out.mono ?_
  rintro e w' ⟨cap, m, rfl, h1, h2, h3, h4⟩
  go_wp2
  go_ret
  exact ⟨cap, m, rfl, h1, h2, h3, h4⟩
end Go.Proofs.YtpognbkdafnfjaaDoor
