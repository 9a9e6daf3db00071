/- Texts of this proof, joined: ZRr, ZLink, ZCh, Child. -/
import Derived.Test.YtnchoogjjnjikaaGreatDoorJ11
/- rrset.Right of a set of NSEC. -/
namespace Go.Proofs.YtnchoogjjnjikaaGreatDoor
set_option linter.unusedVariables false
set_option linter.unusedSimpArgs false
open Go.RowKit
attribute [local go_sem ↓] storeAt_lk loadAt_lk
def stLoad (a : Value) : Sem Value := Instr.loadAt 40 a
theorem loadAt_st (a : Value) : Instr.loadAt 40 a = stLoad a := rfl
def stStore (a x : Value) : Sem Unit := Instr.storeAt 40 a x
theorem storeAt_st (a x : Value) : Instr.storeAt 40 a x = stStore a x := rfl
theorem sizeSt : (Tryz.prog.info? 40).map (·.size) = some 6 := by kernel_rfl
theorem stLoad_run {W : World} {b : Nat} {x0 x1 x2 x3 x4 x5 : Value} (h : W.heap[b]? = some (.cells #[x0, x1, x2, x3, x4, x5] 40 (0, 0))) : (stLoad (.pointer (some ⟨b, 0, none⟩))).run Tryz.prog W = .ok (.agg #[x0, x1, x2, x3, x4, x5]) W := by
  unfold stLoad
  simp only [Instr.loadAt, Instr.sureAddr, Sem.run_bind, Sem.run_pure, Result.andThen]
  exact run_loadVar_row W b _ _ _ (0, 0) _ h Tryz.underlying40 rfl sizeSt
attribute [local go_sem ↓] loadAt_st storeAt_st
set_option maxRecDepth 100000 in
set_option maxHeartbeats 1000000 in
theorem ins1_in (v : Value) (W : World) : Calls Tryz.prog 243 #[v, .int .i64 0, .int .i64 1] W fun e w' => e = .returned (.tuple #[]) ∧ w' = W := by
  go_enter Tryz.func243, Tryz.ntmps243
  go_wp2_with fail
  go_loopw [6] (fun iv wr => iv = .int .i64 1 ∧ wr = W) (fun _ _ => 0)
  case atStart => exact ⟨by first | rfl | go_num, rfl⟩
  case round =>
    obtain ⟨rfl, rfl⟩ := hrel
    go_wp2
    exact bodyPost_end (results_none rfl _ _ _) rfl ⟨rfl, rfl⟩
set_option maxRecDepth 100000 in
set_option maxHeartbeats 1000000 in
theorem pdq1_in (v : Value) (k : Int) (W : World) : Calls Tryz.prog 221 #[v, .int .i64 0, .int .i64 1, .int .i64 k] W fun e w' => e = .returned (.tuple #[]) ∧ w' = W := by
  have HI := Hid.mk (ins1_in v)
  go_enter Tryz.func221, Tryz.ntmps221
  go_wp2_with fail
  go_loopw [1, 2] (fun av bv wr => av = .int .i64 0 ∧ bv = .int .i64 1 ∧ wr = W) (fun _ _ _ => 0)
  case atStart => exact ⟨rfl, rfl, rfl⟩
  case round =>
    obtain ⟨rfl, rfl, rfl⟩ := hrel
    go_wp2_with fail
    refine (HI.out _).mono ?_
    rintro e w1 ⟨rfl, rfl⟩
    go_wp2
    exact bodyPost_ret (results_none rfl _ _ _) rfl ⟨rfl, rfl⟩
set_option maxRecDepth 100000 in
set_option maxHeartbeats 1000000 in
theorem sort1_in (q : Option Addr) (c : Nat) (W : World) : Calls Tryz.prog 203 #[.slice q 1 c] W fun e w' => e = .returned (.tuple #[]) ∧ w' = W := by
  have HL := Hid.mk (Tryz.bits_Len 1 · (by omega) (by omega))
  have HP := Hid.mk fun k => pdq1_in (.slice q 1 c) k
  go_enter Tryz.func203, Tryz.ntmps203
  go_wp2_with fail
  refine (HL.out _).mono ?_
  rintro e w1 ⟨rfl, rfl⟩
  go_wp2_with fail
  refine (HP.out _ _).mono ?_
  rintro e w2 ⟨rfl, rfl⟩
  go_wp2
  exact bodyPost_end (results_none rfl _ _ _) rfl ⟨rfl, rfl⟩
set_option maxRecDepth 100000 in
set_option maxHeartbeats 1000000 in
theorem compact1_in (q : Option Addr) (c : Nat) (W : World) : Calls Tryz.prog 183 #[.slice q 1 c] W fun e w' => e = .returned (.slice q 1 c) ∧ w' = W := by
  go_enter Tryz.func183, Tryz.ntmps183
  go_wp2
  go_ret
  exact ⟨rfl, rfl⟩
set_option maxRecDepth 100000 in
set_option maxHeartbeats 1000000 in
theorem nothers_in (W : World) : Calls Tryz.prog 220 #[.int .i64 47] W fun e w' => e = .returned (.bool false) ∧ w' = W := by
  go_enter Tryz.func220, Tryz.ntmps220
  go_wp2
  go_ret
  exact ⟨rfl, rfl⟩
set_option maxRecDepth 100000 in
set_option maxHeartbeats 1000000 in
theorem lower47_in (d : ByteArray) (W : World) : Calls Tryz.prog 202 #[.int .i64 47, .string d] W fun e w' => e = .returned (.string d) ∧ w' = W := by
  have HI := Hid.mk nothers_in
  go_enter Tryz.func202, Tryz.ntmps202
  go_wp2_with fail
  refine (HI.out _).mono ?_
  rintro e w1 ⟨rfl, rfl⟩
  go_wp2
  go_ret
  exact ⟨rfl, rfl⟩
set_option maxRecDepth 100000 in
set_option maxHeartbeats 1000000 in
theorem fitsA_in (W : World) : Calls Tryz.prog 181 #[.int .i64 1, .int .i64 16] W fun e w' => e = .returned (.bool true) ∧ w' = W := by
  go_enter Tryz.func181, Tryz.ntmps181
  go_wp2
  go_ret
  exact ⟨rfl, rfl⟩
set_option maxRecDepth 100000 in
set_option maxHeartbeats 1000000 in
theorem fitsB_in (W : World) : Calls Tryz.prog 181 #[.int .i64 0, .int .i64 31] W fun e w' => e = .returned (.bool true) ∧ w' = W := by
  go_enter Tryz.func181, Tryz.ntmps181
  go_wp2
  go_ret
  exact ⟨rfl, rfl⟩
set_option maxRecDepth 100000 in
set_option maxHeartbeats 1000000 in
theorem makes_in (W : World) : Calls Tryz.prog 180 #[.int .i64 47] W fun e w' => e = .returned (.bool true) ∧ w' = W := by
  go_enter Tryz.func180, Tryz.ntmps180
  go_wp2
  go_ret
  exact ⟨rfl, rfl⟩
set_option maxRecDepth 100000 in
set_option maxHeartbeats 2000000 in
theorem rhead_in (s : ByteArray) (g cap : Nat) (W : World) (hs : Hid (∀ w, Calls Tryz.prog 19 #[.string s] w fun e w' => e = .returned (.bool true) ∧ Below w.heap.size w w')) : Calls Tryz.prog 122 #[.agg #[.string s, .int .i64 47, .int .i64 1, .int .i64 0, .slice (some ⟨g, 0, none⟩) 1 cap, .slice none 0 0]] W fun e w' => e = .returned (.bool true) ∧ Below W.heap.size W w' := by
  have HM := Hid.mk makes_in
  have HA := Hid.mk fitsA_in
  have HB := Hid.mk fitsB_in
  obtain ⟨V, hV, F⟩ : ∃ V, W.alloc (Obj.cells #[.string s, .int .i64 47, .int .i64 1, .int .i64 0, .slice (some ⟨g, 0, none⟩) 1 cap, .slice none 0 0] 40 (0, 0)) = V ∧ Fm W [(W.heap.size, Obj.cells #[.string s, .int .i64 47, .int .i64 1, .int .i64 0, .slice (some ⟨g, 0, none⟩) 1 cap, .slice none 0 0] 40 (0, 0))] V := ⟨_, rfl, Fm.box1 W _⟩
  have HCe : Hid (∀ w, Fm W [(W.heap.size, Obj.cells #[.string s, .int .i64 47, .int .i64 1, .int .i64 0, .slice (some ⟨g, 0, none⟩) 1 cap, .slice none 0 0] 40 (0, 0))] w → w.cell? ⟨W.heap.size, 0, none⟩ = some (.string s) ∧ w.cell? ⟨W.heap.size, 1, none⟩ = some (.int .i64 47) ∧ w.cell? ⟨W.heap.size, 2, none⟩ = some (.int .i64 1) ∧ w.cell? ⟨W.heap.size, 3, none⟩ = some (.int .i64 0) ∧ w.cell? ⟨W.heap.size, 4, none⟩ = some (.slice (some ⟨g, 0, none⟩) 1 cap) ∧ w.cell? ⟨W.heap.size, 5, none⟩ = some (.slice none 0 0)) := fun w h => ⟨(cells_at (h.get 0 rfl) rfl).1, (cells_at (h.get 0 rfl) rfl).1, (cells_at (h.get 0 rfl) rfl).1, (cells_at (h.get 0 rfl) rfl).1, (cells_at (h.get 0 rfl) rfl).1, (cells_at (h.get 0 rfl) rfl).1⟩
  obtain ⟨q0, q1, q2, q3, q4, q5⟩ := HCe.out _ F
  go_enter Tryz.func122, Tryz.ntmps122
  go_wp2_with fail
  refine (hs.out _).mono ?_
  rintro e w1 ⟨rfl, hb⟩
  replace F := F.blk hb
  clear hb hV q0 q1 q2 q3 q4 q5
  obtain ⟨q0, q1, q2, q3, q4, q5⟩ := HCe.out _ F
  go_wp2_with fail
  refine (HM.out _).mono ?_
  rintro e w2 ⟨rfl, rfl⟩
  go_wp2_with fail
  refine (HA.out _).mono ?_
  rintro e w3 ⟨rfl, rfl⟩
  go_wp2_with fail
  refine (HB.out _).mono ?_
  rintro e w4 ⟨rfl, rfl⟩
  go_wp2
  go_ret
  exact ⟨rfl, F.bel⟩
set_option maxRecDepth 100000 in
set_option maxHeartbeats 2000000 in
theorem rsigs_in (s : ByteArray) (g cap : Nat) (W : World) : Calls Tryz.prog 124 #[.agg #[.string s, .int .i64 47, .int .i64 1, .int .i64 0, .slice (some ⟨g, 0, none⟩) 1 cap, .slice none 0 0]] W fun e w' => e = .returned (.bool true) ∧ Below W.heap.size W w' := by
  obtain ⟨V, hV, F⟩ : ∃ V, W.alloc (Obj.cells #[.string s, .int .i64 47, .int .i64 1, .int .i64 0, .slice (some ⟨g, 0, none⟩) 1 cap, .slice none 0 0] 40 (0, 0)) = V ∧ Fm W [(W.heap.size, Obj.cells #[.string s, .int .i64 47, .int .i64 1, .int .i64 0, .slice (some ⟨g, 0, none⟩) 1 cap, .slice none 0 0] 40 (0, 0))] V := ⟨_, rfl, Fm.box1 W _⟩
  have HCe : Hid (∀ w, Fm W [(W.heap.size, Obj.cells #[.string s, .int .i64 47, .int .i64 1, .int .i64 0, .slice (some ⟨g, 0, none⟩) 1 cap, .slice none 0 0] 40 (0, 0))] w → w.cell? ⟨W.heap.size, 0, none⟩ = some (.string s) ∧ w.cell? ⟨W.heap.size, 1, none⟩ = some (.int .i64 47) ∧ w.cell? ⟨W.heap.size, 2, none⟩ = some (.int .i64 1) ∧ w.cell? ⟨W.heap.size, 3, none⟩ = some (.int .i64 0) ∧ w.cell? ⟨W.heap.size, 4, none⟩ = some (.slice (some ⟨g, 0, none⟩) 1 cap) ∧ w.cell? ⟨W.heap.size, 5, none⟩ = some (.slice none 0 0)) := fun w h => ⟨(cells_at (h.get 0 rfl) rfl).1, (cells_at (h.get 0 rfl) rfl).1, (cells_at (h.get 0 rfl) rfl).1, (cells_at (h.get 0 rfl) rfl).1, (cells_at (h.get 0 rfl) rfl).1, (cells_at (h.get 0 rfl) rfl).1⟩
  obtain ⟨q0, q1, q2, q3, q4, q5⟩ := HCe.out _ F
  go_enter Tryz.func124, Tryz.ntmps124
  go_wp2_with fail
  go_loopw [14] (fun iv wr => iv = .int .i64 0 ∧ Fm W [(W.heap.size, Obj.cells #[.string s, .int .i64 47, .int .i64 1, .int .i64 0, .slice (some ⟨g, 0, none⟩) 1 cap, .slice none 0 0] 40 (0, 0))] wr) (fun _ _ => 0)
  case atStart => exact ⟨rfl, by first | exact F | (rw [hV]; exact F)⟩
  case round =>
    obtain ⟨rfl, Fr⟩ := hrel
    go_wp2
    go_ret
    exact ⟨rfl, Fr.bel⟩
set_option maxRecDepth 100000 in
set_option maxHeartbeats 2000000 in
theorem inord_in (d : ByteArray) (s : ByteArray) (g cap : Nat) (W : World) (hd : W.cell? ⟨g, 0, none⟩ = some (.string d)) (hg : g < W.heap.size) : Calls Tryz.prog 184 #[.agg #[.string s, .int .i64 47, .int .i64 1, .int .i64 0, .slice (some ⟨g, 0, none⟩) 1 cap, .slice none 0 0]] W fun e w' => (∃ q c, e = .returned (.slice q 1 c)) ∧ Below W.heap.size W w' := by
  have HL := Hid.mk (lower47_in d)
  have HS := Hid.mk sort1_in
  have HD := Hid.mk hd
  clear hd
  obtain ⟨V, hV, F⟩ : ∃ V, W.alloc (Obj.cells #[.string s, .int .i64 47, .int .i64 1, .int .i64 0, .slice (some ⟨g, 0, none⟩) 1 cap, .slice none 0 0] 40 (0, 0)) = V ∧ Fm W [(W.heap.size, Obj.cells #[.string s, .int .i64 47, .int .i64 1, .int .i64 0, .slice (some ⟨g, 0, none⟩) 1 cap, .slice none 0 0] 40 (0, 0))] V := ⟨_, rfl, Fm.box1 W _⟩
  have HCe : Hid (∀ w, Fm W [(W.heap.size, Obj.cells #[.string s, .int .i64 47, .int .i64 1, .int .i64 0, .slice (some ⟨g, 0, none⟩) 1 cap, .slice none 0 0] 40 (0, 0))] w → w.cell? ⟨W.heap.size, 0, none⟩ = some (.string s) ∧ w.cell? ⟨W.heap.size, 1, none⟩ = some (.int .i64 47) ∧ w.cell? ⟨W.heap.size, 2, none⟩ = some (.int .i64 1) ∧ w.cell? ⟨W.heap.size, 3, none⟩ = some (.int .i64 0) ∧ w.cell? ⟨W.heap.size, 4, none⟩ = some (.slice (some ⟨g, 0, none⟩) 1 cap) ∧ w.cell? ⟨W.heap.size, 5, none⟩ = some (.slice none 0 0)) := fun w h => ⟨(cells_at (h.get 0 rfl) rfl).1, (cells_at (h.get 0 rfl) rfl).1, (cells_at (h.get 0 rfl) rfl).1, (cells_at (h.get 0 rfl) rfl).1, (cells_at (h.get 0 rfl) rfl).1, (cells_at (h.get 0 rfl) rfl).1⟩
  obtain ⟨q0, q1, q2, q3, q4, q5⟩ := HCe.out _ F
  obtain ⟨i0, hi, hz0, hz1, hz2⟩ := info_parts info9
  go_enter Tryz.func184, Tryz.ntmps184
  go_wp2_with fail
  go_loopw [3, 9] (fun lv iv wr => ((iv = .int .i64 0 ∧ lv = .slice none 0 0) ∨ (iv = .int .i64 1 ∧ ∃ q c, lv = .slice q 1 c)) ∧ Fm W [(W.heap.size, Obj.cells #[.string s, .int .i64 47, .int .i64 1, .int .i64 0, .slice (some ⟨g, 0, none⟩) 1 cap, .slice none 0 0] 40 (0, 0))] wr) (fun _ iv _ => 1 - (intOf iv).toNat)
  case atStart => exact ⟨.inl ⟨rfl, rfl⟩, by first | exact F | (rw [hV]; exact F)⟩
  case round =>
    obtain ⟨hh, Fr⟩ := hrel
    clear q0 q1 q2 q3 q4 q5 F hV
    rcases hh with ⟨rfl, rfl⟩ | ⟨rfl, q, c, rfl⟩
    · obtain ⟨q0, q1, q2, q3, q4, q5⟩ := HCe.out _ Fr
      have kd : wr.cell? ⟨g, 0, none⟩ = some (.string d) := (Fr.bel.cell (p := ⟨g, 0, none⟩) hg).trans HD.out
      go_wp2_with fail
      refine (HL.out _).mono ?_
      rintro e w1 ⟨rfl, rfl⟩
      have hrow : w1.ownsRow W.heap.size 9 1 (.slice none 0 0) 0 [] := World.ownsRow_nil w1 W.heap.size _ _
      go_wp2_with (at_builtin; refine wpList_append_own _ rfl _ _ 24 rfl W.heap.size 9 i0 (.string ⟨#[]⟩) 1 16 Tryz.underlying24 hi hz0 hz1 hz2 rfl (by decide) _ _ _ rfl (hrow.alloc _) ⟨w1.heap.size, 0, none⟩ 1 1 [.string d] rfl rfl (cell_one_new _ _ _) (by simp [Value.oneCell']) (by unfold maxLen; omega) (by omega) (by have := Fr.bel.size; simp; omega) ?_; intro v1 w3 hown3 hgrow3 _)
      have hB3 : Below w1.heap.size w1 w3 := ((Below.refl w1.heap.size w1).alloc (Nat.le_refl _) _).grown hgrow3 (by simp) (fun j ej => by have ej' : (none : Option Nat) = some j := ej; cases ej')
      obtain ⟨q, c, hv1⟩ := row_as hown3
      have F3 := Fr.blk hB3
      subst hv1
      clear hgrow3 hown3 hB3 hrow
      go_roundw
      case rel => exact ⟨.inr ⟨by first | rfl | go_num, _, _, rfl⟩, F3⟩
      case measure => simp [intOf]
    · go_wp2_with fail
      refine (HS.out _ _ _).mono ?_
      rintro e w1 ⟨rfl, rfl⟩
      go_wp2
      go_ret
      exact ⟨⟨q, c, rfl⟩, Fr.bel⟩
set_option maxRecDepth 100000 in
set_option maxHeartbeats 2000000 in
theorem rdata_in (d : ByteArray) (s : ByteArray) (g cap : Nat) (W : World) (hd : W.cell? ⟨g, 0, none⟩ = some (.string d)) (hg : g < W.heap.size) (hr : Hid (∀ w, Calls Tryz.prog 182 #[.int .i64 47, .string d] w fun e w' => e = .returned (.bool true) ∧ Below w.heap.size w w')) : Calls Tryz.prog 123 #[.agg #[.string s, .int .i64 47, .int .i64 1, .int .i64 0, .slice (some ⟨g, 0, none⟩) 1 cap, .slice none 0 0]] W fun e w' => e = .returned (.bool true) ∧ Below W.heap.size W w' := by
  have HI : Hid (∀ w, Below W.heap.size W w → Calls Tryz.prog 184 #[.agg #[.string s, .int .i64 47, .int .i64 1, .int .i64 0, .slice (some ⟨g, 0, none⟩) 1 cap, .slice none 0 0]] w fun e w' => (∃ q c, e = .returned (.slice q 1 c)) ∧ Below w.heap.size w w') := fun w hb => inord_in d s g cap w ((hb.cell (p := ⟨g, 0, none⟩) hg).trans hd) (Nat.lt_of_lt_of_le hg hb.size)
  have HCo := Hid.mk compact1_in
  have HD := Hid.mk hd
  clear hd
  obtain ⟨V, hV, F⟩ : ∃ V, W.alloc (Obj.cells #[.string s, .int .i64 47, .int .i64 1, .int .i64 0, .slice (some ⟨g, 0, none⟩) 1 cap, .slice none 0 0] 40 (0, 0)) = V ∧ Fm W [(W.heap.size, Obj.cells #[.string s, .int .i64 47, .int .i64 1, .int .i64 0, .slice (some ⟨g, 0, none⟩) 1 cap, .slice none 0 0] 40 (0, 0))] V := ⟨_, rfl, Fm.box1 W _⟩
  have HCe : Hid (∀ w, Fm W [(W.heap.size, Obj.cells #[.string s, .int .i64 47, .int .i64 1, .int .i64 0, .slice (some ⟨g, 0, none⟩) 1 cap, .slice none 0 0] 40 (0, 0))] w → w.cell? ⟨W.heap.size, 0, none⟩ = some (.string s) ∧ w.cell? ⟨W.heap.size, 1, none⟩ = some (.int .i64 47) ∧ w.cell? ⟨W.heap.size, 2, none⟩ = some (.int .i64 1) ∧ w.cell? ⟨W.heap.size, 3, none⟩ = some (.int .i64 0) ∧ w.cell? ⟨W.heap.size, 4, none⟩ = some (.slice (some ⟨g, 0, none⟩) 1 cap) ∧ w.cell? ⟨W.heap.size, 5, none⟩ = some (.slice none 0 0)) := fun w h => ⟨(cells_at (h.get 0 rfl) rfl).1, (cells_at (h.get 0 rfl) rfl).1, (cells_at (h.get 0 rfl) rfl).1, (cells_at (h.get 0 rfl) rfl).1, (cells_at (h.get 0 rfl) rfl).1, (cells_at (h.get 0 rfl) rfl).1⟩
  obtain ⟨q0, q1, q2, q3, q4, q5⟩ := HCe.out _ F
  go_enter Tryz.func123, Tryz.ntmps123
  go_wp2_with fail
  go_loopw [18] (fun iv wr => (iv = .int .i64 0 ∨ iv = .int .i64 1) ∧ Fm W [(W.heap.size, Obj.cells #[.string s, .int .i64 47, .int .i64 1, .int .i64 0, .slice (some ⟨g, 0, none⟩) 1 cap, .slice none 0 0] 40 (0, 0))] wr) (fun iv _ => 1 - (intOf iv).toNat)
  case atStart => exact ⟨.inl rfl, by first | exact F | (rw [hV]; exact F)⟩
  case round =>
    obtain ⟨hh, Fr⟩ := hrel
    clear q0 q1 q2 q3 q4 q5 F hV
    obtain ⟨q0, q1, q2, q3, q4, q5⟩ := HCe.out _ Fr
    rcases hh with rfl | rfl
    · have kd : wr.cell? ⟨g, 0, none⟩ = some (.string d) := (Fr.bel.cell (p := ⟨g, 0, none⟩) hg).trans HD.out
      go_wp2_with fail
      refine (hr.out _).mono ?_
      rintro e w1 ⟨rfl, hb⟩
      replace Fr := Fr.blk hb
      clear hb kd q0 q1 q2 q3 q4 q5
      go_wp2
      go_roundw
      case rel => exact ⟨.inr (by first | rfl | go_num), Fr⟩
      case measure => simp [intOf]
    · have HS2 : Hid (∀ w, Fm W [(W.heap.size, Obj.cells #[.string s, .int .i64 47, .int .i64 1, .int .i64 0, .slice (some ⟨g, 0, none⟩) 1 cap, .slice none 0 0] 40 (0, 0))] w → Fm W [(W.heap.size, Obj.cells #[.string s, .int .i64 47, .int .i64 1, .int .i64 0, .slice (some ⟨g, 0, none⟩) 1 cap, .slice none 0 0] 40 (0, 0))] w ∧ (stLoad (.pointer (some ⟨W.heap.size, 0, none⟩))).run Tryz.prog w = .ok (.agg #[.string s, .int .i64 47, .int .i64 1, .int .i64 0, .slice (some ⟨g, 0, none⟩) 1 cap, .slice none 0 0]) w ∧ w.cell? ⟨W.heap.size, 4, none⟩ = some (.slice (some ⟨g, 0, none⟩) 1 cap)) := fun w h => ⟨h, stLoad_run (h.get 0 rfl), (cells_at (h.get 0 rfl) rfl).1⟩
      go_upto_region 9 with fail
      have hS0 := HS2.out _ Fr
      clear q0 q1 q2 q3 q4 q5
      have Fd := Fr.drew
      go_region_held3 (fun w => Fm W [(W.heap.size, Obj.cells #[.string s, .int .i64 47, .int .i64 1, .int .i64 0, .slice (some ⟨g, 0, none⟩) 1 cap, .slice none 0 0] 40 (0, 0))] w ∧ (stLoad (.pointer (some ⟨W.heap.size, 0, none⟩))).run Tryz.prog w = .ok (.agg #[.string s, .int .i64 47, .int .i64 1, .int .i64 0, .slice (some ⟨g, 0, none⟩) 1 cap, .slice none 0 0]) w ∧ w.cell? ⟨W.heap.size, 4, none⟩ = some (.slice (some ⟨g, 0, none⟩) 1 cap))
        (first | assumption | (apply HS2.out; first | assumption | (apply Fm.drew; assumption)))
        (first
          | (go_at_call 184; with_reducible refine (HI.out _ (Fm.bel (by first | assumption | (apply Fm.drew; assumption)))).mono ?_; rintro e w2 ⟨⟨q2, c2, rfl⟩, hb2⟩; have F2 := Fm.blk (by first | assumption | (apply Fm.drew; assumption)) hb2; have hs2 := HS2.out _ F2)
          | (go_at_call 183; with_reducible refine (HCo.out _ _ _).mono ?_; rintro e w3 ⟨rfl, rfl⟩))
      go_wp2
      go_ret
      exact ⟨rfl, F2.bel⟩
set_option maxRecDepth 100000 in
set_option maxHeartbeats 2000000 in
theorem rright_in (d : ByteArray) (s : ByteArray) (g cap : Nat) (W : World) (hd : W.cell? ⟨g, 0, none⟩ = some (.string d)) (hg : g < W.heap.size) (hs : Hid (∀ w, Calls Tryz.prog 19 #[.string s] w fun e w' => e = .returned (.bool true) ∧ Below w.heap.size w w')) (hr : Hid (∀ w, Calls Tryz.prog 182 #[.int .i64 47, .string d] w fun e w' => e = .returned (.bool true) ∧ Below w.heap.size w w')) : Calls Tryz.prog 93 #[.agg #[.string s, .int .i64 47, .int .i64 1, .int .i64 0, .slice (some ⟨g, 0, none⟩) 1 cap, .slice none 0 0]] W fun e w' => e = .returned (.bool true) ∧ Below W.heap.size W w' := by
  have H1 : Hid (∀ w, Calls Tryz.prog 122 #[.agg #[.string s, .int .i64 47, .int .i64 1, .int .i64 0, .slice (some ⟨g, 0, none⟩) 1 cap, .slice none 0 0]] w fun e w' => e = .returned (.bool true) ∧ Below w.heap.size w w') := fun w => rhead_in s g cap w hs
  have H2 : Hid (∀ w, Below W.heap.size W w → Calls Tryz.prog 123 #[.agg #[.string s, .int .i64 47, .int .i64 1, .int .i64 0, .slice (some ⟨g, 0, none⟩) 1 cap, .slice none 0 0]] w fun e w' => e = .returned (.bool true) ∧ Below w.heap.size w w') := fun w hb => rdata_in d s g cap w ((hb.cell (p := ⟨g, 0, none⟩) hg).trans hd) (Nat.lt_of_lt_of_le hg hb.size) hr
  have H3 : Hid (∀ w, Calls Tryz.prog 124 #[.agg #[.string s, .int .i64 47, .int .i64 1, .int .i64 0, .slice (some ⟨g, 0, none⟩) 1 cap, .slice none 0 0]] w fun e w' => e = .returned (.bool true) ∧ Below w.heap.size w w') := fun w => rsigs_in s g cap w
  clear hd hs hr
  obtain ⟨V, hV, F⟩ : ∃ V, W.alloc (Obj.cells #[.string s, .int .i64 47, .int .i64 1, .int .i64 0, .slice (some ⟨g, 0, none⟩) 1 cap, .slice none 0 0] 40 (0, 0)) = V ∧ Fm W [(W.heap.size, Obj.cells #[.string s, .int .i64 47, .int .i64 1, .int .i64 0, .slice (some ⟨g, 0, none⟩) 1 cap, .slice none 0 0] 40 (0, 0))] V := ⟨_, rfl, Fm.box1 W _⟩
  have l1 := stLoad_run (F.get 0 rfl)
  go_enter Tryz.func93, Tryz.ntmps93
  go_wp2_with fail
  refine (H1.out _).mono ?_
  rintro e w1 ⟨rfl, hb⟩
  replace F := F.blk hb
  clear hb l1 hV
  have l1 := stLoad_run (F.get 0 rfl)
  go_wp2_with fail
  refine (H2.out _ F.bel).mono ?_
  rintro e w2 ⟨rfl, hb⟩
  replace F := F.blk hb
  clear hb l1
  have l1 := stLoad_run (F.get 0 rfl)
  go_wp2_with fail
  refine (H3.out _).mono ?_
  rintro e w3 ⟨rfl, hb⟩
  replace F := F.blk hb
  clear hb l1
  have l1 := stLoad_run (F.get 0 rfl)
  go_wp2
  go_ret
  exact ⟨rfl, F.bel⟩
end Go.Proofs.YtnchoogjjnjikaaGreatDoor
/- A link: covers, encloser, noType. -/
namespace Go.Proofs.YtnchoogjjnjikaaGreatDoor
set_option linter.unusedVariables false
set_option linter.unusedSimpArgs false
open Go.RowKit
attribute [local go_sem ↓] storeAt_lk loadAt_lk
def covB (k : Lk) (n : List (List UInt8)) : Bool := btwB k.o n k.x && (!(delB k.t || hasB k.t 39) || !undB n k.o)
def encN (k : Lk) (n : List (List UInt8)) : List (List UInt8) := if (nm (comN n k.o)).size < (nm (comN n k.x)).size then comN n k.x else comN n k.o
set_option maxRecDepth 100000 in
set_option maxHeartbeats 2000000 in
theorem covers_gen (so sn sx : ByteArray) (q : Option Addr) (m cc : Nat) (B D H U : Bool) (W : World) (hB : Hid (∀ w, Calls Tryz.prog 98 #[.string so, .string sn, .string sx] w fun e w' => e = .returned (.bool B) ∧ Below w.heap.size w w')) (hD : Hid (∀ w, Below W.heap.size W w → Calls Tryz.prog 99 #[.slice q m cc] w fun e w' => e = .returned (.bool D) ∧ w' = w)) (hH : Hid (∀ w, Below W.heap.size W w → Calls Tryz.prog 100 #[.slice q m cc, .int .i64 39] w fun e w' => e = .returned (.bool H) ∧ w' = w)) (hU : Hid (∀ w, Calls Tryz.prog 21 #[.string sn, .string so] w fun e w' => e = .returned (.bool U) ∧ Below w.heap.size w w')) :
    Calls Tryz.prog 69 #[.agg #[.string so, .string sx, .slice q m cc], .string sn] W fun e w' => e = .returned (.bool (B && (!(D || H) || !U))) ∧ Below W.heap.size W w' := by
  obtain ⟨V, hV, F⟩ : ∃ V, W.alloc (Obj.cells #[.string so, .string sx, .slice q m cc] 98 (0, 0)) = V ∧ Fm W [(W.heap.size, Obj.cells #[.string so, .string sx, .slice q m cc] 98 (0, 0))] V := ⟨_, rfl, Fm.box1 W _⟩
  have HCe : Hid (∀ w, Fm W [(W.heap.size, Obj.cells #[.string so, .string sx, .slice q m cc] 98 (0, 0))] w → w.cell? ⟨W.heap.size, 0, none⟩ = some (.string so) ∧ w.cell? ⟨W.heap.size, 1, none⟩ = some (.string sx) ∧ w.cell? ⟨W.heap.size, 2, none⟩ = some (.slice q m cc)) := fun w h => ⟨(cells_at (h.get 0 rfl) rfl).1, (cells_at (h.get 0 rfl) rfl).1, (cells_at (h.get 0 rfl) rfl).1⟩
  obtain ⟨q0, q1, q2⟩ := HCe.out _ F
  go_enter Tryz.func69, Tryz.ntmps69
  go_wp2_with fail
  refine (hB.out _).mono ?_
  rintro e w1 ⟨rfl, hb⟩
  replace F := F.blk hb
  clear hb q0 q1 q2
  obtain ⟨q0, q1, q2⟩ := HCe.out _ F
  clear hV
  cases B with
  | false =>
    go_wp2
    go_ret
    exact ⟨rfl, F.bel⟩
  | true =>
    go_wp2_with fail
    refine (hD.out _ F.bel).mono ?_
    rintro e w2 ⟨rfl, rfl⟩
    cases D with
    | true =>
      go_wp2_with fail
      refine (hU.out _).mono ?_
      rintro e w3 ⟨rfl, hb⟩
      replace F := F.blk hb
      clear hb q0 q1 q2
      obtain ⟨q0, q1, q2⟩ := HCe.out _ F
      go_wp2
      go_ret
      exact ⟨by simp, F.bel⟩
    | false =>
      go_wp2_with fail
      refine (hH.out _ F.bel).mono ?_
      rintro e w3 ⟨rfl, rfl⟩
      cases H with
      | false =>
        go_wp2
        go_ret
        exact ⟨by simp, F.bel⟩
      | true =>
        go_wp2_with fail
        refine (hU.out _).mono ?_
        rintro e w4 ⟨rfl, hb⟩
        replace F := F.blk hb
        clear hb q0 q1 q2
        obtain ⟨q0, q1, q2⟩ := HCe.out _ F
        go_wp2
        go_ret
        exact ⟨by simp, F.bel⟩
theorem covers_in (k : Lk) (a b c : Value) (n : List (List UInt8)) (hk : k.Ok) (hn : OkN n) (W : World) (h : LkAt W k a b c) : Calls Tryz.prog 69 #[.agg #[a, b, c], .string (nm n)] W fun e w' => e = .returned (.bool (covB k n)) ∧ Below W.heap.size W w' := by
  obtain ⟨rfl, rfl, hc⟩ := h
  obtain ⟨q, cc, rfl, _⟩ := id hc
  exact covers_gen _ _ _ q _ cc _ _ _ _ W (Hid.mk (btw_yes k.o n k.x hk.1 hn hk.2.1)) (Hid.mk fun w hb => del_in w _ k.t hk.2.2 (hc.below hb)) (Hid.mk fun w hb => has_in w _ k.t 39 hk.2.2 (hc.below hb)) (Hid.mk (under_yes n k.o hn hk.1))
set_option maxRecDepth 100000 in
set_option maxHeartbeats 2000000 in
theorem encl_gen (so sn sx c1 c2 : ByteArray) (q : Option Addr) (m cc : Nat) (W : World) (h1 : Hid (∀ w, Calls Tryz.prog 95 #[.string sn, .string so] w fun e w' => e = .returned (.tuple #[.string c1, .int .i64 0]) ∧ Below w.heap.size w w')) (h2 : Hid (∀ w, Calls Tryz.prog 95 #[.string sn, .string sx] w fun e w' => e = .returned (.tuple #[.string c2, .int .i64 0]) ∧ Below w.heap.size w w')) :
    Calls Tryz.prog 65 #[.agg #[.string so, .string sx, .slice q m cc], .string sn] W fun e w' => e = .returned (.string (if c1.size < c2.size then c2 else c1)) ∧ Below W.heap.size W w' := by
  obtain ⟨V, hV, F⟩ : ∃ V, W.alloc (Obj.cells #[.string so, .string sx, .slice q m cc] 98 (0, 0)) = V ∧ Fm W [(W.heap.size, Obj.cells #[.string so, .string sx, .slice q m cc] 98 (0, 0))] V := ⟨_, rfl, Fm.box1 W _⟩
  have HCe : Hid (∀ w, Fm W [(W.heap.size, Obj.cells #[.string so, .string sx, .slice q m cc] 98 (0, 0))] w → w.cell? ⟨W.heap.size, 0, none⟩ = some (.string so) ∧ w.cell? ⟨W.heap.size, 1, none⟩ = some (.string sx) ∧ w.cell? ⟨W.heap.size, 2, none⟩ = some (.slice q m cc)) := fun w h => ⟨(cells_at (h.get 0 rfl) rfl).1, (cells_at (h.get 0 rfl) rfl).1, (cells_at (h.get 0 rfl) rfl).1⟩
  obtain ⟨q0, q1, q2⟩ := HCe.out _ F
  by_cases hlt : c1.size < c2.size
  · rw [if_pos hlt]
    have hd : decide ((c1.size : Int) < (c2.size : Int)) = true := decide_eq_true (by omega)
    go_enter Tryz.func65, Tryz.ntmps65
    go_wp2_with fail
    refine (h1.out _).mono ?_
    rintro e w1 ⟨rfl, hb⟩
    replace F := F.blk hb
    clear hb q0 q1 q2
    obtain ⟨q0, q1, q2⟩ := HCe.out _ F
    clear hV
    go_wp2_with fail
    refine (h2.out _).mono ?_
    rintro e w2 ⟨rfl, hb⟩
    replace F := F.blk hb
    clear hb q0 q1 q2
    obtain ⟨q0, q1, q2⟩ := HCe.out _ F
    go_wp2
    go_ret
    exact ⟨rfl, F.bel⟩
  · rw [if_neg hlt]
    have hd : decide ((c1.size : Int) < (c2.size : Int)) = false := decide_eq_false (by omega)
    go_enter Tryz.func65, Tryz.ntmps65
    go_wp2_with fail
    refine (h1.out _).mono ?_
    rintro e w1 ⟨rfl, hb⟩
    replace F := F.blk hb
    clear hb q0 q1 q2
    obtain ⟨q0, q1, q2⟩ := HCe.out _ F
    clear hV
    go_wp2_with fail
    refine (h2.out _).mono ?_
    rintro e w2 ⟨rfl, hb⟩
    replace F := F.blk hb
    clear hb q0 q1 q2
    obtain ⟨q0, q1, q2⟩ := HCe.out _ F
    go_wp2
    go_ret
    exact ⟨rfl, F.bel⟩
theorem encN_ok {k : Lk} {n : List (List UInt8)} (hn : OkN n) : OkN (encN k n) := by
  unfold encN
  split
  · exact ok_com hn
  · exact ok_com hn
theorem encl_in (k : Lk) (a b c : Value) (n : List (List UInt8)) (hk : k.Ok) (hn : OkN n) (W : World) (h : LkAt W k a b c) : Calls Tryz.prog 65 #[.agg #[a, b, c], .string (nm n)] W fun e w' => e = .returned (.string (nm (encN k n))) ∧ Below W.heap.size W w' := by
  obtain ⟨rfl, rfl, hc⟩ := h
  obtain ⟨q, cc, rfl, _⟩ := id hc
  have := encl_gen (nm k.o) (nm n) (nm k.x) _ _ q k.t.length cc W (Hid.mk (common_yes n k.o hn hk.1)) (Hid.mk (common_yes n k.x hn hk.2.1))
  rwa [show (if (nm (comN n k.o)).size < (nm (comN n k.x)).size then nm (comN n k.x) else nm (comN n k.o)) = nm (encN k n) by unfold encN; split <;> rfl] at this
set_option maxRecDepth 100000 in
set_option maxHeartbeats 2000000 in
theorem ntype_gen (so sx : ByteArray) (q : Option Addr) (m cc : Nat) (k : Int) (R D : Bool) (W : World) (hR : (so.toList == [0]) = R) (h1 : Hid (∀ w, Below W.heap.size W w → Calls Tryz.prog 96 #[.slice q m cc, .int .i64 k, .bool R] w fun e w' => e = .returned (.bool D) ∧ w' = w)) :
    Calls Tryz.prog 67 #[.agg #[.string so, .string sx, .slice q m cc], .int .i64 k] W fun e w' => e = .returned (.int .i64 (if D then 1 else 0)) ∧ Below W.heap.size W w' := by
  obtain ⟨V, hV, F⟩ : ∃ V, W.alloc (Obj.cells #[.string so, .string sx, .slice q m cc] 98 (0, 0)) = V ∧ Fm W [(W.heap.size, Obj.cells #[.string so, .string sx, .slice q m cc] 98 (0, 0))] V := ⟨_, rfl, Fm.box1 W _⟩
  have HCe : Hid (∀ w, Fm W [(W.heap.size, Obj.cells #[.string so, .string sx, .slice q m cc] 98 (0, 0))] w → w.cell? ⟨W.heap.size, 0, none⟩ = some (.string so) ∧ w.cell? ⟨W.heap.size, 1, none⟩ = some (.string sx) ∧ w.cell? ⟨W.heap.size, 2, none⟩ = some (.slice q m cc)) := fun w h => ⟨(cells_at (h.get 0 rfl) rfl).1, (cells_at (h.get 0 rfl) rfl).1, (cells_at (h.get 0 rfl) rfl).1⟩
  obtain ⟨q0, q1, q2⟩ := HCe.out _ F
  go_enter Tryz.func67, Tryz.ntmps67
  go_wp2_with fail
  refine (h1.out _ F.bel).mono ?_
  rintro e w1 ⟨rfl, rfl⟩
  cases D with
  | true =>
    go_wp2
    go_ret
    exact ⟨rfl, F.bel⟩
  | false =>
    go_wp2
    go_ret
    exact ⟨rfl, F.bel⟩
theorem ntype_in (k : Lk) (a b c : Value) (kind : Int) (hk : k.Ok) (W : World) (h : LkAt W k a b c) : Calls Tryz.prog 67 #[.agg #[a, b, c], .int .i64 kind] W fun e w' => e = .returned (.int .i64 (if lackB k.t kind ((nm k.o).toList == [0]) then 1 else 0)) ∧ Below W.heap.size W w' := by
  obtain ⟨rfl, rfl, hc⟩ := h
  obtain ⟨q, cc, rfl, _⟩ := id hc
  exact ntype_gen _ _ q _ cc kind _ _ W rfl (Hid.mk fun w hb => lack_in w _ k.t kind _ hk.2.2 (hc.below hb))
end Go.Proofs.YtnchoogjjnjikaaGreatDoor
/- A chain: covering, matching. -/
namespace Go.Proofs.YtnchoogjjnjikaaGreatDoor
set_option linter.unusedVariables false
set_option linter.unusedSimpArgs false
open Go.RowKit
attribute [local go_sem ↓] storeAt_lk loadAt_lk
def ChAt (W : World) (v : Value) (ks : List Lk) : Prop := ∃ q cap, v = .slice q ks.length cap ∧ ∀ j (h : j < ks.length), ∃ g a b c, q = some ⟨g, 0, none⟩ ∧ g < W.heap.size ∧ W.cell? ⟨g, j * 3, none⟩ = some a ∧ W.cell? ⟨g, j * 3 + 1, none⟩ = some b ∧ W.cell? ⟨g, j * 3 + 2, none⟩ = some c ∧ LkAt W ks[j] a b c
theorem ChAt.blk {W W' : World} {v : Value} {ks : List Lk} (h : ChAt W v ks) (hb : Below W.heap.size W W') : ChAt W' v ks := by
  obtain ⟨q, cap, hv, hc⟩ := h
  refine ⟨q, cap, hv, fun j hj => ?_⟩
  obtain ⟨g, a, b, c, hq, hg, h0, h1, h2, h3⟩ := hc j hj
  exact ⟨g, a, b, c, hq, Nat.lt_of_lt_of_le hg hb.size, (hb.cell (p := ⟨g, j * 3, none⟩) hg).trans h0, (hb.cell (p := ⟨g, j * 3 + 1, none⟩) hg).trans h1, (hb.cell (p := ⟨g, j * 3 + 2, none⟩) hg).trans h2, h3.blk hb⟩
def ChOk (ks : List Lk) : Prop := ks.length ≤ 100000 ∧ ∀ k ∈ ks, k.Ok
def Found (W : World) (r : Option Lk) (a b c : Value) (f : Bool) : Prop := match r with
  | some k => f = true ∧ LkAt W k a b c
  | none => f = false ∧ a.oneCell' = true ∧ b.oneCell' = true ∧ c.oneCell' = true
theorem Fm.tl {W w : World} {x : Nat × Obj} {l : List (Nat × Obj)} (h : Fm W (x :: l) w) : Fm W l w := ⟨fun i b o e => h.has (i + 1) b o (by simpa using e), fun p hp => h.own p (List.mem_cons_of_mem _ hp), (List.nodup_cons.1 h.nd).2, h.bel⟩
theorem find_at (p : Lk → Bool) {ks : List Lk} {i : Nat} (hi : i < ks.length) (hp : p ks[i] = true) (hno : ∀ j (hj : j < ks.length), j < i → p ks[j] = false) : ks.find? p = some ks[i] := by
  rw [List.find?_eq_some_iff_getElem]
  exact ⟨hp, i, hi, rfl, fun j hj => by rw [hno j (by omega) hj]; rfl⟩
theorem find_none {p : Lk → Bool} {ks : List Lk} (hno : ∀ j (hj : j < ks.length), p ks[j] = false) : ks.find? p = none := by
  rw [List.find?_eq_none]
  intro k hk
  obtain ⟨j, hj, rfl⟩ := List.getElem_of_mem hk
  rw [hno j hj]
  simp
theorem lkLoad_mid {W : World} {g o : Nat} {a b c : Value} (h0 : W.cell? ⟨g, o, none⟩ = some a) (h1 : W.cell? ⟨g, o + 1, none⟩ = some b) (h2 : W.cell? ⟨g, o + 2, none⟩ = some c) : (lkLoad (.pointer (some ⟨g, o, none⟩))).run Tryz.prog W = .ok (.agg #[a, b, c]) W := by
  refine run_loadAt_mid W g o _ [a, b, c] _ (fun j v hv => ?_) Tryz.underlying98 rfl (by exact sizeLk)
  match j, hv with
  | 0, hv => cases hv; exact h0
  | 1, hv => cases hv; exact h1
  | 2, hv => cases hv; exact h2
set_option maxRecDepth 100000 in
set_option maxHeartbeats 2000000 in
theorem covering_in (ks : List Lk) (n : List (List UInt8)) (hks : ChOk ks) (hn : OkN n) (v : Value) (W : World) (h : ChAt W v ks) :
    Calls Tryz.prog 64 #[v, .string (nm n)] W fun e w' => (∃ a b c f, e = .returned (.tuple #[.agg #[a, b, c], .bool f]) ∧ Found w' (ks.find? (covB · n)) a b c f) ∧ Below W.heap.size W w' := by
  obtain ⟨q, cap, rfl, hc⟩ := id h
  have HH := Hid.mk h
  have HC := Hid.mk hc
  have HK := Hid.mk hks.2
  have hml := hks.1
  obtain ⟨m, hm⟩ : ∃ m, ks.length = m := ⟨_, rfl⟩
  have HM := Hid.mk hm
  rw [hm] at hml ⊢
  have HP : Hid (∀ k ∈ ks, ∀ a b c w, LkAt w k a b c → Calls Tryz.prog 69 #[.agg #[a, b, c], .string (nm n)] w fun e w' => e = .returned (.bool (covB k n)) ∧ Below w.heap.size w w') := fun k hk a b c w hl => covers_in k a b c n (hks.2 k hk) hn w hl
  generalize nm n = sn at HP ⊢
  clear hm hks h hc hn
  obtain ⟨V, hV, F⟩ : ∃ V, W.alloc (Obj.cells #[.string ⟨#[]⟩, .string ⟨#[]⟩, .slice none 0 0] 98 (0, 0)) = V ∧ Fm W [(W.heap.size, Obj.cells #[.string ⟨#[]⟩, .string ⟨#[]⟩, .slice none 0 0] 98 (0, 0))] V := ⟨_, rfl, Fm.box1 W _⟩
  go_enter Tryz.func64, Tryz.ntmps64
  go_upto_region 1 with fail
  clear hV
  go_wp2_with fail
  go_loopw [10] (fun iv wr => ∃ i : Nat, i ≤ m ∧ iv = .int .i64 (i : Int) ∧ Fm W [(W.heap.size, Obj.cells #[.string ⟨#[]⟩, .string ⟨#[]⟩, .slice none 0 0] 98 (0, 0))] wr ∧ Hid (∀ j (hj : j < ks.length), j < i → covB ks[j] n = false)) (fun iv _ => m - (intOf iv).toNat)
  case atStart => exact ⟨0, Nat.zero_le _, rfl, F, fun j _ hj => absurd hj (Nat.not_lt_zero _)⟩
  case round =>
    obtain ⟨i, hi, rfl, Fr, hno⟩ := hrel
    clear F
    by_cases hlt : i < m
    · have hil : i < ks.length := by rw [HM.out]; exact hlt
      obtain ⟨g, a, b, c, rfl, hg, h0, h1, h2, hl⟩ := HC.out i hil
      obtain ⟨o1, o2, o3⟩ := hl.one
      obtain ⟨kk, hkk⟩ : ∃ kk, ks[i] = kk := ⟨_, rfl⟩
      have HPi := Hid.mk (HP.out kk (by rw [← hkk]; exact List.getElem_mem _) a b c)
      have HFA : Hid (covB kk n = true → ks.find? (covB · n) = some kk) := fun hA1 => by rw [← hkk]; exact find_at _ hil (by rw [hkk]; exact hA1) hno
      have HNA : Hid (covB kk n = false → ∀ j (hj : j < ks.length), j < i + 1 → covB ks[j] n = false)   := fun hA1 j hj hji => by
        rcases Nat.lt_succ_iff_lt_or_eq.1 hji with h | h
        · exact hno j hj h
        · subst h
          rw [hkk]
          exact hA1
      rw [hkk] at hl
      have HL := Hid.mk hl
      have hi' : (i : Int) < (m : Int) := by omega
      obtain ⟨D, hD⟩ : ∃ D, covB kk n = D := ⟨_, rfl⟩
      rw [hD] at HPi HFA HNA
      clear hD hl hil hkk hno
      have k0 : wr.cell? ⟨g, i * 3, none⟩ = some a := (Fr.bel.cell (p := ⟨g, i * 3, none⟩) hg).trans h0
      have k1 : wr.cell? ⟨g, i * 3 + 1, none⟩ = some b := (Fr.bel.cell (p := ⟨g, i * 3 + 1, none⟩) hg).trans h1
      have k2 : wr.cell? ⟨g, i * 3 + 2, none⟩ = some c := (Fr.bel.cell (p := ⟨g, i * 3 + 2, none⟩) hg).trans h2
      have ld := lkLoad_mid k0 k1 k2
      have st := lkst1 wr a b c (.string ⟨#[]⟩) (.string ⟨#[]⟩) (.slice none 0 0) o1 o2 o3
      clear h0 h1 h2 k0 k1 k2
      go_upto_region 4 with fail
      have F2 := Fr.new (Obj.cells #[a, b, c] 98 (0, 0))
      clear ld st Fr
      generalize wr.alloc (Obj.cells #[a, b, c] 98 (0, 0)) = z at F2 ⊢
      generalize wr.heap.size = b7 at F2 ⊢
      have l7 := lkLoad_run (F2.get 0 rfl)
      go_wp2_with fail
      refine (HPi.out _ (HL.out.blk F2.bel)).mono ?_
      rintro e w2 ⟨rfl, hb⟩
      replace F2 := F2.blk hb
      clear hb l7
      cases D with
      | true =>
        have HFi := Hid.mk (HFA.out rfl)
        have l7 := lkLoad_run (F2.get 0 rfl)
        have s4 := lkStore_run (x' := a) (y' := b) (z' := c) (F2.get 1 rfl) o1 o2 o3
        have F4 := F2.put 1 #[a, b, c] rfl
        go_wp2
        refine bodyPost_ret (results_lk_tmp Tryz.results64 rfl rfl (F4.get 1 rfl)) rfl ⟨⟨a, b, c, true, rfl, ?_⟩, F4.bel⟩
        rw [HFi.out]
        exact ⟨rfl, HL.out.blk F4.bel⟩
      | false =>
        have HNo := Hid.mk (HNA.out rfl)
        have F5 := F2.tl
        clear F2
        go_wp2
        go_roundw
        case rel => exact ⟨i + 1, by omega, by go_num, F5, HNo⟩
        case measure => simp [intOf]; omega
    · obtain rfl : i = m := by omega
      have HFn : Hid (ks.find? (covB · n) = none) := find_none fun j hj => hno j hj (by rw [← HM.out]; exact hj)
      have s4 := lkStore_run (x' := .string ⟨#[]⟩) (y' := .string ⟨#[]⟩) (z' := .slice none 0 0) (Fr.get 0 rfl) rfl rfl rfl
      have F4 := Fr.put 0 #[.string ⟨#[]⟩, .string ⟨#[]⟩, .slice none 0 0] rfl
      clear hno
      go_wp2
      refine bodyPost_ret (results_lk_tmp Tryz.results64 rfl rfl (F4.get 0 rfl)) rfl ⟨⟨_, _, _, false, rfl, ?_⟩, F4.bel⟩
      rw [HFn.out]
      exact ⟨rfl, rfl, rfl, rfl⟩
def mtcB (k : Lk) (n : List (List UInt8)) : Bool := eqB k.o n
set_option maxRecDepth 100000 in
set_option maxHeartbeats 2000000 in
theorem matching_in (ks : List Lk) (n : List (List UInt8)) (hks : ChOk ks) (hn : OkN n) (v : Value) (W : World) (h : ChAt W v ks) :
    Calls Tryz.prog 66 #[v, .string (nm n)] W fun e w' => (∃ a b c f, e = .returned (.tuple #[.agg #[a, b, c], .bool f]) ∧ Found w' (ks.find? (mtcB · n)) a b c f) ∧ Below W.heap.size W w' := by
  obtain ⟨q, cap, rfl, hc⟩ := id h
  have HH := Hid.mk h
  have HC := Hid.mk hc
  have HK := Hid.mk hks.2
  have hml := hks.1
  obtain ⟨m, hm⟩ : ∃ m, ks.length = m := ⟨_, rfl⟩
  have HM := Hid.mk hm
  rw [hm] at hml ⊢
  have HP : Hid (∀ k ∈ ks, ∀ a b c w, LkAt w k a b c → Calls Tryz.prog 7 #[a, .string (nm n)] w fun e w' => e = .returned (.bool (mtcB k n)) ∧ Below w.heap.size w w') := fun k hk a b c w hl => by rw [hl.1]; exact equal_yes k.o n (hks.2 k hk).1 hn w
  generalize nm n = sn at HP ⊢
  clear hm hks h hc hn
  obtain ⟨V, hV, F⟩ : ∃ V, W.alloc (Obj.cells #[.string ⟨#[]⟩, .string ⟨#[]⟩, .slice none 0 0] 98 (0, 0)) = V ∧ Fm W [(W.heap.size, Obj.cells #[.string ⟨#[]⟩, .string ⟨#[]⟩, .slice none 0 0] 98 (0, 0))] V := ⟨_, rfl, Fm.box1 W _⟩
  go_enter Tryz.func66, Tryz.ntmps66
  go_upto_region 1 with fail
  clear hV
  go_wp2_with fail
  go_loopw [10] (fun iv wr => ∃ i : Nat, i ≤ m ∧ iv = .int .i64 (i : Int) ∧ Fm W [(W.heap.size, Obj.cells #[.string ⟨#[]⟩, .string ⟨#[]⟩, .slice none 0 0] 98 (0, 0))] wr ∧ Hid (∀ j (hj : j < ks.length), j < i → mtcB ks[j] n = false)) (fun iv _ => m - (intOf iv).toNat)
  case atStart => exact ⟨0, Nat.zero_le _, rfl, F, fun j _ hj => absurd hj (Nat.not_lt_zero _)⟩
  case round =>
    obtain ⟨i, hi, rfl, Fr, hno⟩ := hrel
    clear F
    by_cases hlt : i < m
    · have hil : i < ks.length := by rw [HM.out]; exact hlt
      obtain ⟨g, a, b, c, rfl, hg, h0, h1, h2, hl⟩ := HC.out i hil
      obtain ⟨o1, o2, o3⟩ := hl.one
      obtain ⟨kk, hkk⟩ : ∃ kk, ks[i] = kk := ⟨_, rfl⟩
      have HPi := Hid.mk (HP.out kk (by rw [← hkk]; exact List.getElem_mem _) a b c)
      have HFA : Hid (mtcB kk n = true → ks.find? (mtcB · n) = some kk) := fun hA1 => by rw [← hkk]; exact find_at _ hil (by rw [hkk]; exact hA1) hno
      have HNA : Hid (mtcB kk n = false → ∀ j (hj : j < ks.length), j < i + 1 → mtcB ks[j] n = false)   := fun hA1 j hj hji => by
        rcases Nat.lt_succ_iff_lt_or_eq.1 hji with h | h
        · exact hno j hj h
        · subst h
          rw [hkk]
          exact hA1
      rw [hkk] at hl
      have HL := Hid.mk hl
      have hi' : (i : Int) < (m : Int) := by omega
      obtain ⟨D, hD⟩ : ∃ D, mtcB kk n = D := ⟨_, rfl⟩
      rw [hD] at HPi HFA HNA
      clear hD hl hil hkk hno
      have k0 : wr.cell? ⟨g, i * 3, none⟩ = some a := (Fr.bel.cell (p := ⟨g, i * 3, none⟩) hg).trans h0
      have k1 : wr.cell? ⟨g, i * 3 + 1, none⟩ = some b := (Fr.bel.cell (p := ⟨g, i * 3 + 1, none⟩) hg).trans h1
      have k2 : wr.cell? ⟨g, i * 3 + 2, none⟩ = some c := (Fr.bel.cell (p := ⟨g, i * 3 + 2, none⟩) hg).trans h2
      have ld := lkLoad_mid k0 k1 k2
      have st := lkst1 wr a b c (.string ⟨#[]⟩) (.string ⟨#[]⟩) (.slice none 0 0) o1 o2 o3
      clear h0 h1 h2 k0 k1 k2
      go_upto_region 4 with fail
      have F2 := Fr.new (Obj.cells #[a, b, c] 98 (0, 0))
      clear ld st Fr
      generalize wr.alloc (Obj.cells #[a, b, c] 98 (0, 0)) = z at F2 ⊢
      generalize wr.heap.size = b7 at F2 ⊢
      have l7 : z.cell? ⟨b7, 0, none⟩ = some a := (cells_at (F2.get 0 rfl) rfl).1
      go_wp2_with fail
      refine (HPi.out _ (HL.out.blk F2.bel)).mono ?_
      rintro e w2 ⟨rfl, hb⟩
      replace F2 := F2.blk hb
      clear hb l7
      cases D with
      | true =>
        have HFi := Hid.mk (HFA.out rfl)
        have l7 := lkLoad_run (F2.get 0 rfl)
        have s4 := lkStore_run (x' := a) (y' := b) (z' := c) (F2.get 1 rfl) o1 o2 o3
        have F4 := F2.put 1 #[a, b, c] rfl
        go_wp2
        refine bodyPost_ret (results_lk_tmp Tryz.results66 rfl rfl (F4.get 1 rfl)) rfl ⟨⟨a, b, c, true, rfl, ?_⟩, F4.bel⟩
        rw [HFi.out]
        exact ⟨rfl, HL.out.blk F4.bel⟩
      | false =>
        have HNo := Hid.mk (HNA.out rfl)
        have F5 := F2.tl
        clear F2
        go_wp2
        go_roundw
        case rel => exact ⟨i + 1, by omega, by go_num, F5, HNo⟩
        case measure => simp [intOf]; omega
    · obtain rfl : i = m := by omega
      have HFn : Hid (ks.find? (mtcB · n) = none) := find_none fun j hj => hno j hj (by rw [← HM.out]; exact hj)
      have s4 := lkStore_run (x' := .string ⟨#[]⟩) (y' := .string ⟨#[]⟩) (z' := .slice none 0 0) (Fr.get 0 rfl) rfl rfl rfl
      have F4 := Fr.put 0 #[.string ⟨#[]⟩, .string ⟨#[]⟩, .slice none 0 0] rfl
      clear hno
      go_wp2
      refine bodyPost_ret (results_lk_tmp Tryz.results66 rfl rfl (F4.get 0 rfl)) rfl ⟨⟨_, _, _, false, rfl, ?_⟩, F4.bel⟩
      rw [HFn.out]
      exact ⟨rfl, rfl, rfl, rfl⟩
end Go.Proofs.YtnchoogjjnjikaaGreatDoor
/- Child. -/
namespace Go.Proofs.YtnchoogjjnjikaaGreatDoor
set_option linter.unusedVariables false
open Go.RowKit
theorem child_bad (s t : ByteArray) (hs : s.size ≤ maxLen) (ht : t.size ≤ maxLen) (h : ¬ (IsName t ∧ 1 ≤ s.size ∧ s.size ≤ 63)) (w : World) :
    Calls Tryz.prog 12 #[.string s, .string t] w fun e w' => e = .returned (.tuple #[.string ⟨#[]⟩, .int .i64 2]) ∧ Below w.heap.size w w' := by
  by_cases h1 : IsName t
  · have h2 : s.size < 1 ∨ 63 < s.size := by
      by_cases h3 : 1 ≤ s.size
      · right; apply Nat.lt_of_not_le; intro h4; exact h ⟨h1, h3, h4⟩
      · left; omega
    obtain ⟨a, ha, rfl⟩ := h1
    go_enter Tryz.func12, Tryz.ntmps12
    go_wp2_with fail
    refine (right_yes a ha _).mono ?_
    rintro e w1 ⟨rfl, hb1⟩
    go_wp2_with fail
    refine (rightLabel_no s _ hs h2).mono ?_
    rintro e w2 ⟨rfl, rfl⟩
    go_wp2
    go_ret2
    exact ⟨rfl, hb1⟩
  · go_enter Tryz.func12, Tryz.ntmps12
    go_wp2_with fail
    refine (right_no t h1 ht _).mono ?_
    rintro e w1 ⟨rfl, hb1⟩
    go_wp2
    go_ret2
    exact ⟨rfl, hb1⟩
theorem child_bytes (l : List UInt8) (ls : List (List UInt8)) : (⟨[UInt8.ofNat l.length].toArray⟩ : ByteArray) ++ ⟨l.toArray⟩ ++ nm ls = nm (l :: ls) := by
  apply ba_ext
  rw [ByteArray.data_append, ByteArray.data_append, Array.toList_append, Array.toList_append, nm_list, nm_list]
  simp [nmL, flat]
set_option maxHeartbeats 400000 in
theorem child_in (l : List UInt8) (ls : List (List UInt8)) (h1 : 1 ≤ l.length) (h2 : l.length ≤ 63) (ho : OkN ls) (w : World) :
    Calls Tryz.prog 12 #[.string ⟨l.toArray⟩, .string (nm ls)] w fun e w' =>
      e = .returned (if (nm (l :: ls)).size ≤ 255 then .tuple #[.string (nm (l :: ls)), .int .i64 0] else .tuple #[.string ⟨#[]⟩, .int .i64 3]) ∧ Below w.heap.size w w' := by
  have HB := Hid.mk (child_bytes l ls)
  obtain ⟨s, hs⟩ : ∃ s : ByteArray, (⟨l.toArray⟩ : ByteArray) = s := ⟨_, rfl⟩
  have hsz : s.size = l.length := by rw [← hs]; rfl
  have hs1 : 1 ≤ s.size := by omega
  have hs2 : s.size ≤ 63 := by omega
  rw [hs] at HB ⊢
  have HZ := Hid.mk hsz
  clear hs hsz h1 h2
  have hlen := ho.len
  have hzz : (nm (l :: ls)).size ≤ 400 := by
    rw [nm_size]; simp [flat]; have := HZ.out; omega
  have hcell : ∀ W : World, (W.alloc (.cells #[.int .u8 (s.size : Int)] 5)).cell? ⟨W.heap.size, 0, none⟩ = some (.int .u8 (s.size : Int)) := fun W => (Boxed.new W 5 _).cell
  have hcv : ∀ W : World, (convert 58 9 (.slice (some ⟨W.heap.size, 0, none⟩) 1 1)).run Tryz.prog (W.alloc (.cells #[.int .u8 (s.size : Int)] 5)) = .ok (.string ⟨[UInt8.ofNat s.size].toArray⟩) (W.alloc (.cells #[.int .u8 (s.size : Int)] 5)) := fun W => by
    have := run_convert_bytes_back (P := Tryz.prog) (W.alloc (.cells #[.int .u8 (s.size : Int)] 5)) 58 9 5 ⟨W.heap.size, 0, none⟩ 1 [UInt8.ofNat s.size] Tryz.underlying58 Tryz.underlying5 Tryz.underlying9 (fun j hj => by
      have e : j = 0 := by simpa using hj
      subst e
      rw [add_at, hcell]
      simp; omega)
    simpa using this
  have hcat : ((⟨#[UInt8.ofNat s.size]⟩ : ByteArray) ++ s).size ≤ 64 := by rw [ByteArray.size_append]; show 1 + s.size ≤ 64; omega
  have hnz : (nm ls).size ≤ 255 := by rw [nm_size]; omega
  by_cases hl : (nm (l :: ls)).size ≤ 255
  · rw [if_pos hl]
    go_enter Tryz.func12, Tryz.ntmps12
    go_wp2_with fail
    refine (right_yes ls ho _).mono ?_
    rintro e w1 ⟨rfl, hb1⟩
    go_wp2_with fail
    refine (rightLabel_yes s _ hs1 hs2).mono ?_
    rintro e w2 ⟨rfl, rfl⟩
    go_wp2_with fail
    rw [HZ.out, HB.out]
    refine (limited_ok _ _ hl).mono ?_
    rintro e w3 ⟨rfl, rfl⟩
    go_wp2
    go_ret2
    exact ⟨rfl, hb1.alloc hb1.size _⟩
  · rw [if_neg hl]
    go_enter Tryz.func12, Tryz.ntmps12
    go_wp2_with fail
    refine (right_yes ls ho _).mono ?_
    rintro e w1 ⟨rfl, hb1⟩
    go_wp2_with fail
    refine (rightLabel_yes s _ hs1 hs2).mono ?_
    rintro e w2 ⟨rfl, rfl⟩
    go_wp2_with fail
    rw [HZ.out, HB.out]
    refine (limited_long _ _ (by unfold maxLen; omega) (by omega)).mono ?_
    rintro e w3 ⟨rfl, rfl⟩
    go_wp2
    go_ret2
    exact ⟨rfl, hb1.alloc hb1.size _⟩
end Go.Proofs.YtnchoogjjnjikaaGreatDoor