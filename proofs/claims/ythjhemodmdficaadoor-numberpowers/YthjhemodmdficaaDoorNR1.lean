/- The document's numbers: rows of digits without noughts behind; trim, Bits. -/
import Derived.Test.YthjhemodmdficaaDoorNFx
namespace Go.Proofs.YthjhemodmdficaaDoor
set_option linter.unusedVariables false
open Go.RowKit
/-- the last digit is none of 0. -/
def Tr (ds : List (BitVec 32)) : Prop := ds = [] ∨ ∃ a x, ds = a ++ [x] ∧ x.toNat ≠ 0
/-- a row of digits. -/
def Rw (w : World) (v : Value) (ds : List (BitVec 32)) : Prop := w.ownsRow 0 24 1 v ds.length (wl ds)
/-- the document's number. -/
def RN (w : World) (v : Value) (N : Nat) : Prop := ∃ ds, Rw w v ds ∧ val ds = N ∧ Tr ds
theorem Rw.view {w : World} {v : Value} {ds : List (BitVec 32)} (h : Rw w v ds) : (v = .slice none 0 0 ∧ ds = []) ∨ ∃ g cap, v = .slice (some ⟨g, 0, none⟩) ds.length cap ∧ ds.length ≤ cap ∧ cap ≤ maxLen ∧ g < w.heap.size ∧ (∀ j, j < ds.length → w.cell? ⟨g, j, none⟩ = some (.int .u32 ((ds[j]?.getD 0).toNat : Int))) ∧ ∀ m, m ≤ ds.length → Rw w (.slice (some ⟨g, 0, none⟩) m cap) (ds.take m) := by
  obtain ⟨h1, ⟨h2, h3⟩ | ⟨g, cap, cur, h2, h3, h4, h5, h6, h7, h8⟩⟩ := h
  · exact .inl ⟨h2, List.eq_nil_of_length_eq_zero h3⟩
  · refine .inr ⟨g, cap, h2, h5, h6, box_lt h4, fun j hj => ?_, fun m hm => ⟨by rw [wl_len, List.length_take, Nat.min_eq_left hm, Nat.mul_one], .inr ⟨g, cap, cur, ?_, Nat.zero_le _, h4, by rw [List.length_take, Nat.min_eq_left hm]; omega, h6, h7, ?_⟩⟩⟩
    · have e : cur.toList[j]? = some (.int .u32 ((ds[j]?.getD 0).toNat : Int)) := by
        have := wl_at ds j hj
        rw [← h8, List.getElem?_take_of_lt (by omega)] at this
        exact this
      rw [Array.getElem?_toList] at e
      simp [World.cell?, h4, e]
    · rw [List.length_take, Nat.min_eq_left hm]
    · rw [List.length_take, Nat.min_eq_left hm, Nat.mul_one]
      have e : (wl ds).take m = wl (ds.take m) := by simp [wl, List.map_take]
      rw [← e, ← h8, List.take_take, Nat.mul_one, Nat.min_eq_left hm]
theorem Rw.blk {w w' : World} {v : Value} {ds : List (BitVec 32)} (hb : Below w.heap.size w w') (h : Rw w v ds) : Rw w' v ds := by
  obtain ⟨h1, ⟨h2, h3⟩ | ⟨g, cap, cur, h2, h3, h4, h5, h6, h7, h8⟩⟩ := h
  · exact ⟨h1, .inl ⟨h2, h3⟩⟩
  · exact ⟨h1, .inr ⟨g, cap, cur, h2, h3, Go.Proofs.YthjhemodmdficaaDoor.blk hb h4, h5, h6, h7, h8⟩⟩
theorem RN.blk {w w' : World} {v : Value} {N : Nat} (hb : Below w.heap.size w w') (h : RN w v N) : RN w' v N := by
  obtain ⟨ds, h1, h2, h3⟩ := h
  exact ⟨ds, h1.blk hb, h2, h3⟩
theorem Rw.of {w : World} {base : Nat} {v : Value} {n : Nat} {ds : List (BitVec 32)} (h : w.ownsRow base 24 1 v n (wl ds)) (hn : ds.length = n) : Rw w v ds := by
  subst hn
  obtain ⟨h1, ⟨h2, h3⟩ | ⟨g, cap, cur, h2, h3, h4, h5, h6, h7, h8⟩⟩ := h
  · exact ⟨h1, .inl ⟨h2, h3⟩⟩
  · exact ⟨h1, .inr ⟨g, cap, cur, h2, Nat.zero_le _, h4, h5, h6, h7, h8⟩⟩
theorem Rw.nil (w : World) : Rw w (.slice none 0 0) [] := World.ownsRow_nil w 0 _ _
theorem RN.zero (w : World) : RN w (.slice none 0 0) 0 := ⟨[], Rw.nil w, rfl, .inl rfl⟩
theorem Tr.many {ds : List (BitVec 32)} (h : Tr ds) : ds.length = mny (val ds) := (mny_list ds h).symm
theorem take_zero_top (ds : List (BitVec 32)) (k : Nat) (hk : k < ds.length) (h0 : (ds[k]?.getD 0).toNat = 0) : val (ds.take (k + 1)) = val (ds.take k) := by
  rw [val_take_succ ds k hk, h0, Nat.mul_zero, Nat.add_zero]
theorem take_top (ds : List (BitVec 32)) (k : Nat) (hk : k < ds.length) (h0 : (ds[k]?.getD 0).toNat ≠ 0) : Tr (ds.take (k + 1)) := by
  refine .inr ⟨ds.take k, ds[k]?.getD 0, ?_, h0⟩
  rw [List.take_add_one, List.getElem?_eq_getElem hk]
  rfl
set_option maxRecDepth 100000 in
set_option maxHeartbeats 400000 in
theorem rtrim2_in (W : World) (v : Value) (ds : List (BitVec 32)) (h : Rw W v ds) : Calls Tryd.prog 38 #[v] W fun e w' => ∃ v', e = .returned v' ∧ RN W v' (val ds) ∧ w' = W ∧ (∀ g o n c, v' = .slice (some ⟨g, o, none⟩) n c → ∃ n' c', v = .slice (some ⟨g, o, none⟩) n' c') := by
  rcases h.view with ⟨rfl, rfl⟩ | ⟨g, cap, rfl, hc, hm, hg, hcell, hrow⟩
  · go_enter Tryd.func38, Tryd.ntmps38
    go_wp2
    go_loopw [3] (fun n wr => n = .int .i64 0 ∧ wr = W) (fun _ _ => 0)
    case atStart => exact ⟨rfl, rfl⟩
    case round =>
      obtain ⟨rfl, rfl⟩ := hrel
      go_wp2
      go_ret
      exact ⟨.slice none 0 0, rfl, RN.zero _, rfl, fun _ _ _ _ h => by cases h⟩
  · obtain ⟨L, hL⟩ : ∃ L, ds.length = L := ⟨_, rfl⟩
    have HR := Hid.mk hrow
    have HC := Hid.mk hcell
    have HL := Hid.mk hL
    rw [hL] at hc HC HR ⊢
    unfold maxLen at hm
    clear hrow hcell h hL
    have hci : (L : Int) ≤ (cap : Int) := by omega
    go_enter Tryd.func38, Tryd.ntmps38
    go_wp2
    go_loopw [3] (fun n wr => ∃ k : Nat, k ≤ L ∧ n = .int .i64 (k : Int) ∧ Hid (val (ds.take k) = val ds) ∧ wr = W) (fun n _ => (intOf n).toNat)
    case atStart => exact ⟨L, Nat.le_refl _, rfl, by rw [Hid, List.take_of_length_le (by rw [HL.out]; omega)], rfl⟩
    case round =>
      obtain ⟨k, hk, rfl, HV, rfl⟩ := hrel
      rcases Nat.eq_zero_or_pos k with rfl | hk0
      · have HRN : Hid (RN wr (.slice (some ⟨g, 0, none⟩) 0 cap) (val ds)) := ⟨ds.take 0, HR.out 0 (by omega), HV.out, .inl rfl⟩
        have hcp : (0 : Int) ≤ (cap : Int) := by omega
        go_wp2
        go_ret
        exact ⟨_, rfl, HRN.out, rfl, fun g' o' n' c' h => by cases h; exact ⟨_, _, rfl⟩⟩
      · obtain ⟨j, rfl⟩ : ∃ j, k = j + 1 := ⟨k - 1, by omega⟩
        have hcj := HC.out j (by omega)
        have hjl : j < ds.length := by rw [HL.out]; omega
        have e1 : ((j + 1 : Nat) : Int) - 1 = (j : Int) := by omega
        have e2 : (0 : Int) < ((j + 1 : Nat) : Int) := by omega
        have e3 : (j : Int) < (L : Int) := by omega
        have e4 : (0 : Int) ≤ (j : Int) := by omega
        by_cases hd : (ds[j]?.getD 0).toNat = 0
        · have HN : Hid (val (ds.take j) = val ds) := (take_zero_top ds j hjl hd).symm.trans HV.out
          rw [hd] at hcj
          have hcj' : wr.cell? ⟨g, j, none⟩ = some (.int .u32 0) := hcj
          clear hcj hd hjl
          go_wp2
          go_roundw
          case rel => exact ⟨j, by omega, by go_num, HN, trivial⟩
          case measure => simp [intOf]
        · have HRN : Hid (RN wr (.slice (some ⟨g, 0, none⟩) (j + 1) cap) (val ds)) := ⟨ds.take (j + 1), by
            have := HR.out (j + 1) (by omega)
            exact this, HV.out, take_top ds j hjl hd⟩
          have hb := bv_lt (ds[j]?.getD 0)
          generalize (ds[j]?.getD 0).toNat = x at hcj hd
          have hxi : ((x : Int) == 0) = false := by rw [beq_eq_false_iff_ne]; omega
          have e5 : ((j + 1 : Nat) : Int) ≤ (cap : Int) := by omega
          clear hd hjl hb
          go_wp2
          go_ret
          exact ⟨_, rfl, HRN.out, rfl, fun g' o' n' c' h => by cases h; exact ⟨_, _, rfl⟩⟩
theorem rtrim_in (W : World) (v : Value) (ds : List (BitVec 32)) (h : Rw W v ds) : Calls Tryd.prog 38 #[v] W fun e w' => ∃ v', e = .returned v' ∧ RN W v' (val ds) ∧ w' = W :=
  (rtrim2_in W v ds h).mono fun e w' hh => by
    obtain ⟨v', h1, h2, h3, _⟩ := hh
    exact ⟨v', h1, h2, h3⟩
/-- its row lies in new memory. -/
def Fresh (b : Nat) (v : Value) : Prop := ∀ g o n c, v = .slice (some ⟨g, o, none⟩) n c → b ≤ g
theorem fresh_own {w : World} {base n : Nat} {v : Value} {xs : List Value} (h : w.ownsRow base 24 1 v n xs) : Fresh base v := fun g o n' c' e => by
  subst e
  exact (World.ownsRow.lt h g rfl).1
theorem Fresh.trim {b : Nat} {v v' : Value} (h : Fresh b v) (k : ∀ g o n c, v' = .slice (some ⟨g, o, none⟩) n c → ∃ n' c', v = .slice (some ⟨g, o, none⟩) n' c') : Fresh b v' := fun g o n c e => by
  obtain ⟨n', c', h'⟩ := k g o n c e
  exact h g o n' c' h'
theorem RN.put {w : World} {v : Value} {N g i : Nat} {x : Value} (h : RN w v N) (hf : Fresh (g + 1) v) : RN (w.setCell ⟨g, i, none⟩ x) v N := by
  obtain ⟨ds, ⟨h1, ⟨h2, h3⟩ | ⟨g', cap, cur, h2, h3, h4, h5, h6, h7, h8⟩⟩, hv, ht⟩ := h
  · exact ⟨ds, ⟨h1, .inl ⟨h2, h3⟩⟩, hv, ht⟩
  · have hg := hf g' 0 _ _ h2
    exact ⟨ds, ⟨h1, .inr ⟨g', cap, cur, h2, h3, (Below.heap_setCell w ⟨g, i, none⟩ x g' (by show g' ≠ g; omega)).trans h4, h5, h6, h7, h8⟩⟩, hv, ht⟩
end Go.Proofs.YthjhemodmdficaaDoor
