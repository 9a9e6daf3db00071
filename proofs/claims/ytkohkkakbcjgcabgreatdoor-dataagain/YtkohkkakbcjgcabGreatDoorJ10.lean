/- Texts of this proof, joined: DBytes, DKey, DDs. -/
import Derived.Test.YtkohkkakbcjgcabGreatDoorJ5
import Derived.Deep.RegionHeld3
import Derived.Test.YtkohkkakbcjgcabGreatDoorJ9
import Derived.Test.YtkohkkakbcjgcabGreatDoorJ10
/- bytesOf: a number as one, two or four bytes. -/
namespace Go.Proofs.YtkohkkakbcjgcabGreatDoor
set_option linter.unusedVariables false
set_option linter.unusedSimpArgs false
open Go.RowKit

/-- a number as so many bytes. -/
def bytesB (n w : Nat) : List UInt8 := (List.range w).map fun i => UInt8.ofNat (n / 256 ^ (w - 1 - i))
theorem bytesB_len (n w : Nat) : (bytesB n w).length = w := by simp [bytesB]
theorem byte_back (q : Nat) (b : UInt8) (h : q % 256 = b.toNat) : UInt8.ofNat q = b := by
  apply UInt8.toNat_inj.1
  rw [UInt8.toNat_ofNat']
  exact h
theorem bytesB1 (n : Nat) : bytesB n 1 = [UInt8.ofNat n] := by simp [bytesB, List.range_succ]
theorem bytesB2 (n : Nat) : bytesB n 2 = [UInt8.ofNat (n / 256), UInt8.ofNat n] := by simp [bytesB, List.range_succ]
theorem bytesB4 (n : Nat) : bytesB n 4 = [UInt8.ofNat (n / 16777216), UInt8.ofNat (n / 65536), UInt8.ofNat (n / 256), UInt8.ofNat n] := by simp [bytesB, List.range_succ]
theorem bytesB_num (l : List UInt8) (h : l.length = 1 ∨ l.length = 2 ∨ l.length = 4) : bytesB (numB l) l.length = l := by
  rcases h with h | h | h
  · match l, h with
    | [a], _ =>
      have ha := a.toNat_lt
      rw [show [a].length = 1 from rfl, bytesB1, byte_back (numB [a]) a (by simp only [numB, List.foldl]; omega)]
  · match l, h with
    | [a, b], _ =>
      have ha := a.toNat_lt
      have hb := b.toNat_lt
      rw [show [a, b].length = 2 from rfl, bytesB2, byte_back (numB [a, b] / 256) a (by simp only [numB, List.foldl]; omega), byte_back (numB [a, b]) b (by simp only [numB, List.foldl]; omega)]
  · match l, h with
    | [a, b, c, d], _ =>
      have ha := a.toNat_lt
      have hb := b.toNat_lt
      have hc := c.toNat_lt
      have hd := d.toNat_lt
      rw [show [a, b, c, d].length = 4 from rfl, bytesB4, byte_back (numB [a, b, c, d] / 16777216) a (by simp only [numB, List.foldl]; omega), byte_back (numB [a, b, c, d] / 65536) b (by simp only [numB, List.foldl]; omega), byte_back (numB [a, b, c, d] / 256) c (by simp only [numB, List.foldl]; omega), byte_back (numB [a, b, c, d]) d (by simp only [numB, List.foldl]; omega)]

theorem cells_put {W : World} {b j : Nat} {cs : Array Value} {t : TypeId} (h : W.heap[b]? = some (.cells cs t (0, 0))) (u : Value) : (W.setCell ⟨b, j, none⟩ u).heap[b]? = some (.cells (cs.setIfInBounds j u) t (0, 0)) := by
  simp only [World.setCell, Array.getElem?_modify, h]
  rfl
theorem cells_at {W : World} {b j : Nat} {cs : Array Value} {t : TypeId} {v : Value} (h : W.heap[b]? = some (.cells cs t (0, 0))) (hj : cs[j]? = some v) : W.cell? ⟨b, j, none⟩ = some v ∧ W.frozen? ⟨b, j, none⟩ = false := by
  simp [World.cell?, World.frozen?, h, hj]
theorem wrapu8 (x : Int) (q : Nat) (h : x = (q : Int)) : IntKind.u8.wrap x = (((UInt8.ofNat q).toNat : Nat) : Int) := by
  rw [IntKind.wrap_u8, UInt8.toNat_ofNat', h]
  omega

def BytPost (n : Int) (w : Nat) (W : World) (e : Ending) (w' : World) : Prop := (if 0 ≤ n ∧ n < 256 ^ w then e = .returned (.string ⟨(bytesB n.toNat w).toArray⟩) else e = .panicked mustV) ∧ Below W.heap.size W w'

set_option maxRecDepth 100000 in
set_option maxHeartbeats 2000000 in
theorem bytes1_yes (n : Nat) (hn : n < 256) (w : World) :
    Calls Tryz.prog 38 #[.int .i64 (n : Int), .int .i64 1] w fun e w' => e = .returned (.string ⟨(bytesB n 1).toArray⟩) ∧ Below w.heap.size w w' := by
  obtain ⟨i0, hi, hz0, hz1, hz2⟩ := info_parts info5
  have hsh : (n : Int) / 256 = 0 := by omega
  have HBB : Hid ((⟨(bytesB n 1).toArray⟩ : ByteArray) = ⟨([UInt8.ofNat (n)] : List UInt8).toArray⟩) := by
    rw [Hid]
    simp [bytesB, List.range_succ]
  go_enter Tryz.func38, Tryz.ntmps38
  go_wp2_with fail
  refine (must_yes _).mono ?_
  rintro e w1 ⟨rfl, rfl⟩
  obtain ⟨M, hM⟩ : ∃ M, M = madeCells (Value.int .u8 0).cells (((1 : Nat) : Int).toNat * i0.size) := ⟨_, rfl⟩
  have hMs : M.size = 1 := by rw [hM, size_madeCells, hz1]; simp
  have hmk : ∀ W : World, (Instr.makeSlice 100 (.int .i64 1) (.int .i64 1)).run Tryz.prog W = .ok (.slice (some ⟨W.heap.size, 0, none⟩) 1 1) (W.alloc (.cells M 5)) := fun W => by
    have h := run_make (P := Tryz.prog) W 100 5 i0 (.int .u8 0) Tryz.underlying100 hi hz0 .i64 .i64 ((1 : Nat) : Int) ((1 : Nat) : Int) (by omega) (by omega) (by rw [hz2]; omega) (by omega)
    rw [← hM] at h
    simpa using h
  obtain ⟨v0, hv0⟩ : ∃ v0, M = #[v0] := by
    match M, hMs with
    | ⟨[v0]⟩, _ => exact ⟨v0, rfl⟩
  subst hv0
  clear hM hMs
  go_wp2
  clear hmk
  go_loopw [21] (fun i wr => ∃ (j : Nat) (v0 : Value), j ≤ 1 ∧ i = .int .i64 j ∧ (1 ≤ j → v0 = .int .u8 (((UInt8.ofNat (n)).toNat : Nat) : Int)) ∧ wr.heap[w1.heap.size]? = some (.cells #[v0] 5 (0, 0)) ∧ Below w1.heap.size w1 wr) (fun i _ => 1 - (intOf i).toNat)
  case atStart => exact ⟨0, v0, by omega, rfl, fun h => absurd h (by omega), heap_new _ _, (Below.refl _ _).alloc (Nat.le_refl _) _⟩
  case round =>
    obtain ⟨j, v0, hj, rfl, hv0, hh, hbl⟩ := hrel
    rcases (show j = 0 ∨ j = 1 by omega) with rfl | rfl
    · obtain ⟨hc, hf⟩ := cells_at (j := 0) hh rfl
      have hbs := Hid.mk (cells_put (j := 0) hh (.int .u8 (((UInt8.ofNat (n)).toNat : Nat) : Int)))
      have hwr := wrapu8 ((n : Int)) (n) (by omega)
      go_wp2
      exact ⟨⟨1, (.int .u8 (((UInt8.ofNat (n)).toNat : Nat) : Int)), by omega, rfl, fun _ => rfl, hbs.out, hbl.setCell (p := ⟨w1.heap.size, 0, none⟩) (Nat.le_refl _) _⟩, by simp [intOf]⟩
    · obtain rfl := hv0 (by omega)
      have hcv := run_convert_bytes_back (P := Tryz.prog) wr 100 9 5 ⟨w1.heap.size, 0, none⟩ 1 [UInt8.ofNat (n)] Tryz.underlying100 Tryz.underlying5 Tryz.underlying9 (fun j hj => by
        simp only [List.length_cons, List.length_nil] at hj
        rw [add_at]
        rcases (show j = 0 by omega) with rfl
        all_goals exact (cells_at hh rfl).1)
      simp only [List.length_cons, List.length_nil, Nat.zero_add, Nat.reduceAdd] at hcv
      clear hv0
      go_wp2
      go_ret
      exact ⟨by rw [HBB.out]; rfl, hbl⟩

theorem bytes1_in (n : Int) (w : World) : Calls Tryz.prog 38 #[.int .i64 n, .int .i64 1] w fun e w' => BytPost n 1 w e w' := by
  by_cases h0 : 0 ≤ n
  · by_cases h1 : n < 256
    · obtain ⟨m, rfl⟩ : ∃ m : Nat, n = m := ⟨n.toNat, by omega⟩
      refine (bytes1_yes m (by omega) w).mono ?_
      rintro e w' ⟨rfl, hb⟩
      refine ⟨?_, hb⟩
      rw [if_pos ⟨h0, by omega⟩]
      rfl
    · have hsh : ¬ n / 256 = 0 := by omega
      have hsb : (n / 256 == 0) = false := by simpa using hsh
      go_enter Tryz.func38, Tryz.ntmps38
      go_wp2_with fail
      refine (must_no _).mono ?_
      rintro e w1 ⟨rfl, rfl⟩
      go_wp2
      refine ⟨rfl, ?_, Below.refl _ _⟩
      rw [if_neg (by omega)]
  · go_enter Tryz.func38, Tryz.ntmps38
    go_wp2_with fail
    refine (must_no _).mono ?_
    rintro e w1 ⟨rfl, rfl⟩
    go_wp2
    refine ⟨rfl, ?_, Below.refl _ _⟩
    rw [if_neg (by omega)]

set_option maxRecDepth 100000 in
set_option maxHeartbeats 2000000 in
theorem bytes2_yes (n : Nat) (hn : n < 65536) (w : World) :
    Calls Tryz.prog 38 #[.int .i64 (n : Int), .int .i64 2] w fun e w' => e = .returned (.string ⟨(bytesB n 2).toArray⟩) ∧ Below w.heap.size w w' := by
  obtain ⟨i0, hi, hz0, hz1, hz2⟩ := info_parts info5
  have hsh : (n : Int) / 65536 = 0 := by omega
  have HBB : Hid ((⟨(bytesB n 2).toArray⟩ : ByteArray) = ⟨([UInt8.ofNat (n / 256), UInt8.ofNat (n)] : List UInt8).toArray⟩) := by
    rw [Hid]
    simp [bytesB, List.range_succ]
  go_enter Tryz.func38, Tryz.ntmps38
  go_wp2_with fail
  refine (must_yes _).mono ?_
  rintro e w1 ⟨rfl, rfl⟩
  obtain ⟨M, hM⟩ : ∃ M, M = madeCells (Value.int .u8 0).cells (((2 : Nat) : Int).toNat * i0.size) := ⟨_, rfl⟩
  have hMs : M.size = 2 := by rw [hM, size_madeCells, hz1]; simp
  have hmk : ∀ W : World, (Instr.makeSlice 100 (.int .i64 2) (.int .i64 2)).run Tryz.prog W = .ok (.slice (some ⟨W.heap.size, 0, none⟩) 2 2) (W.alloc (.cells M 5)) := fun W => by
    have h := run_make (P := Tryz.prog) W 100 5 i0 (.int .u8 0) Tryz.underlying100 hi hz0 .i64 .i64 ((2 : Nat) : Int) ((2 : Nat) : Int) (by omega) (by omega) (by rw [hz2]; omega) (by omega)
    rw [← hM] at h
    simpa using h
  obtain ⟨v0, v1, hv0⟩ : ∃ v0 v1, M = #[v0, v1] := by
    match M, hMs with
    | ⟨[v0, v1]⟩, _ => exact ⟨v0, v1, rfl⟩
  subst hv0
  clear hM hMs
  go_wp2
  clear hmk
  go_loopw [21] (fun i wr => ∃ (j : Nat) (v0 v1 : Value), j ≤ 2 ∧ i = .int .i64 j ∧ (1 ≤ j → v0 = .int .u8 (((UInt8.ofNat (n / 256)).toNat : Nat) : Int)) ∧ (2 ≤ j → v1 = .int .u8 (((UInt8.ofNat (n)).toNat : Nat) : Int)) ∧ wr.heap[w1.heap.size]? = some (.cells #[v0, v1] 5 (0, 0)) ∧ Below w1.heap.size w1 wr) (fun i _ => 2 - (intOf i).toNat)
  case atStart => exact ⟨0, v0, v1, by omega, rfl, fun h => absurd h (by omega), fun h => absurd h (by omega), heap_new _ _, (Below.refl _ _).alloc (Nat.le_refl _) _⟩
  case round =>
    obtain ⟨j, v0, v1, hj, rfl, hv0, hv1, hh, hbl⟩ := hrel
    rcases (show j = 0 ∨ j = 1 ∨ j = 2 by omega) with rfl | rfl | rfl
    · obtain ⟨hc, hf⟩ := cells_at (j := 0) hh rfl
      have hbs := Hid.mk (cells_put (j := 0) hh (.int .u8 (((UInt8.ofNat (n / 256)).toNat : Nat) : Int)))
      have hwr := wrapu8 ((n : Int) / 256) (n / 256) (by omega)
      go_wp2
      exact ⟨⟨1, (.int .u8 (((UInt8.ofNat (n / 256)).toNat : Nat) : Int)), v1, by omega, rfl, fun _ => rfl, fun h => absurd h (by omega), hbs.out, hbl.setCell (p := ⟨w1.heap.size, 0, none⟩) (Nat.le_refl _) _⟩, by simp [intOf]⟩
    · obtain ⟨hc, hf⟩ := cells_at (j := 1) hh rfl
      have hbs := Hid.mk (cells_put (j := 1) hh (.int .u8 (((UInt8.ofNat (n)).toNat : Nat) : Int)))
      have hwr := wrapu8 ((n : Int)) (n) (by omega)
      go_wp2
      exact ⟨⟨2, v0, (.int .u8 (((UInt8.ofNat (n)).toNat : Nat) : Int)), by omega, rfl, fun _ => hv0 (by omega), fun _ => rfl, hbs.out, hbl.setCell (p := ⟨w1.heap.size, 1, none⟩) (Nat.le_refl _) _⟩, by simp [intOf]⟩
    · obtain rfl := hv0 (by omega)
      obtain rfl := hv1 (by omega)
      have hcv := run_convert_bytes_back (P := Tryz.prog) wr 100 9 5 ⟨w1.heap.size, 0, none⟩ 2 [UInt8.ofNat (n / 256), UInt8.ofNat (n)] Tryz.underlying100 Tryz.underlying5 Tryz.underlying9 (fun j hj => by
        simp only [List.length_cons, List.length_nil] at hj
        rw [add_at]
        rcases (show j = 0 ∨ j = 1 by omega) with rfl | rfl
        all_goals exact (cells_at hh rfl).1)
      simp only [List.length_cons, List.length_nil, Nat.zero_add, Nat.reduceAdd] at hcv
      clear hv0 hv1
      go_wp2
      go_ret
      exact ⟨by rw [HBB.out]; rfl, hbl⟩

theorem bytes2_in (n : Int) (w : World) : Calls Tryz.prog 38 #[.int .i64 n, .int .i64 2] w fun e w' => BytPost n 2 w e w' := by
  by_cases h0 : 0 ≤ n
  · by_cases h1 : n < 65536
    · obtain ⟨m, rfl⟩ : ∃ m : Nat, n = m := ⟨n.toNat, by omega⟩
      refine (bytes2_yes m (by omega) w).mono ?_
      rintro e w' ⟨rfl, hb⟩
      refine ⟨?_, hb⟩
      rw [if_pos ⟨h0, by omega⟩]
      rfl
    · have hsh : ¬ n / 65536 = 0 := by omega
      have hsb : (n / 65536 == 0) = false := by simpa using hsh
      go_enter Tryz.func38, Tryz.ntmps38
      go_wp2_with fail
      refine (must_no _).mono ?_
      rintro e w1 ⟨rfl, rfl⟩
      go_wp2
      refine ⟨rfl, ?_, Below.refl _ _⟩
      rw [if_neg (by omega)]
  · go_enter Tryz.func38, Tryz.ntmps38
    go_wp2_with fail
    refine (must_no _).mono ?_
    rintro e w1 ⟨rfl, rfl⟩
    go_wp2
    refine ⟨rfl, ?_, Below.refl _ _⟩
    rw [if_neg (by omega)]

set_option maxRecDepth 100000 in
set_option maxHeartbeats 2000000 in
theorem bytes4_yes (n : Nat) (hn : n < 4294967296) (w : World) :
    Calls Tryz.prog 38 #[.int .i64 (n : Int), .int .i64 4] w fun e w' => e = .returned (.string ⟨(bytesB n 4).toArray⟩) ∧ Below w.heap.size w w' := by
  obtain ⟨i0, hi, hz0, hz1, hz2⟩ := info_parts info5
  have hsh : (n : Int) / 4294967296 = 0 := by omega
  have HBB : Hid ((⟨(bytesB n 4).toArray⟩ : ByteArray) = ⟨([UInt8.ofNat (n / 16777216), UInt8.ofNat (n / 65536), UInt8.ofNat (n / 256), UInt8.ofNat (n)] : List UInt8).toArray⟩) := by
    rw [Hid]
    simp [bytesB, List.range_succ]
  go_enter Tryz.func38, Tryz.ntmps38
  go_wp2_with fail
  refine (must_yes _).mono ?_
  rintro e w1 ⟨rfl, rfl⟩
  obtain ⟨M, hM⟩ : ∃ M, M = madeCells (Value.int .u8 0).cells (((4 : Nat) : Int).toNat * i0.size) := ⟨_, rfl⟩
  have hMs : M.size = 4 := by rw [hM, size_madeCells, hz1]; simp
  have hmk : ∀ W : World, (Instr.makeSlice 100 (.int .i64 4) (.int .i64 4)).run Tryz.prog W = .ok (.slice (some ⟨W.heap.size, 0, none⟩) 4 4) (W.alloc (.cells M 5)) := fun W => by
    have h := run_make (P := Tryz.prog) W 100 5 i0 (.int .u8 0) Tryz.underlying100 hi hz0 .i64 .i64 ((4 : Nat) : Int) ((4 : Nat) : Int) (by omega) (by omega) (by rw [hz2]; omega) (by omega)
    rw [← hM] at h
    simpa using h
  obtain ⟨v0, v1, v2, v3, hv0⟩ : ∃ v0 v1 v2 v3, M = #[v0, v1, v2, v3] := by
    match M, hMs with
    | ⟨[v0, v1, v2, v3]⟩, _ => exact ⟨v0, v1, v2, v3, rfl⟩
  subst hv0
  clear hM hMs
  go_wp2
  clear hmk
  go_loopw [21] (fun i wr => ∃ (j : Nat) (v0 v1 v2 v3 : Value), j ≤ 4 ∧ i = .int .i64 j ∧ (1 ≤ j → v0 = .int .u8 (((UInt8.ofNat (n / 16777216)).toNat : Nat) : Int)) ∧ (2 ≤ j → v1 = .int .u8 (((UInt8.ofNat (n / 65536)).toNat : Nat) : Int)) ∧ (3 ≤ j → v2 = .int .u8 (((UInt8.ofNat (n / 256)).toNat : Nat) : Int)) ∧ (4 ≤ j → v3 = .int .u8 (((UInt8.ofNat (n)).toNat : Nat) : Int)) ∧ wr.heap[w1.heap.size]? = some (.cells #[v0, v1, v2, v3] 5 (0, 0)) ∧ Below w1.heap.size w1 wr) (fun i _ => 4 - (intOf i).toNat)
  case atStart => exact ⟨0, v0, v1, v2, v3, by omega, rfl, fun h => absurd h (by omega), fun h => absurd h (by omega), fun h => absurd h (by omega), fun h => absurd h (by omega), heap_new _ _, (Below.refl _ _).alloc (Nat.le_refl _) _⟩
  case round =>
    obtain ⟨j, v0, v1, v2, v3, hj, rfl, hv0, hv1, hv2, hv3, hh, hbl⟩ := hrel
    rcases (show j = 0 ∨ j = 1 ∨ j = 2 ∨ j = 3 ∨ j = 4 by omega) with rfl | rfl | rfl | rfl | rfl
    · obtain ⟨hc, hf⟩ := cells_at (j := 0) hh rfl
      have hbs := Hid.mk (cells_put (j := 0) hh (.int .u8 (((UInt8.ofNat (n / 16777216)).toNat : Nat) : Int)))
      have hwr := wrapu8 ((n : Int) / 16777216) (n / 16777216) (by omega)
      go_wp2
      exact ⟨⟨1, (.int .u8 (((UInt8.ofNat (n / 16777216)).toNat : Nat) : Int)), v1, v2, v3, by omega, rfl, fun _ => rfl, fun h => absurd h (by omega), fun h => absurd h (by omega), fun h => absurd h (by omega), hbs.out, hbl.setCell (p := ⟨w1.heap.size, 0, none⟩) (Nat.le_refl _) _⟩, by simp [intOf]⟩
    · obtain ⟨hc, hf⟩ := cells_at (j := 1) hh rfl
      have hbs := Hid.mk (cells_put (j := 1) hh (.int .u8 (((UInt8.ofNat (n / 65536)).toNat : Nat) : Int)))
      have hwr := wrapu8 ((n : Int) / 65536) (n / 65536) (by omega)
      go_wp2
      exact ⟨⟨2, v0, (.int .u8 (((UInt8.ofNat (n / 65536)).toNat : Nat) : Int)), v2, v3, by omega, rfl, fun _ => hv0 (by omega), fun _ => rfl, fun h => absurd h (by omega), fun h => absurd h (by omega), hbs.out, hbl.setCell (p := ⟨w1.heap.size, 1, none⟩) (Nat.le_refl _) _⟩, by simp [intOf]⟩
    · obtain ⟨hc, hf⟩ := cells_at (j := 2) hh rfl
      have hbs := Hid.mk (cells_put (j := 2) hh (.int .u8 (((UInt8.ofNat (n / 256)).toNat : Nat) : Int)))
      have hwr := wrapu8 ((n : Int) / 256) (n / 256) (by omega)
      go_wp2
      exact ⟨⟨3, v0, v1, (.int .u8 (((UInt8.ofNat (n / 256)).toNat : Nat) : Int)), v3, by omega, rfl, fun _ => hv0 (by omega), fun _ => hv1 (by omega), fun _ => rfl, fun h => absurd h (by omega), hbs.out, hbl.setCell (p := ⟨w1.heap.size, 2, none⟩) (Nat.le_refl _) _⟩, by simp [intOf]⟩
    · obtain ⟨hc, hf⟩ := cells_at (j := 3) hh rfl
      have hbs := Hid.mk (cells_put (j := 3) hh (.int .u8 (((UInt8.ofNat (n)).toNat : Nat) : Int)))
      have hwr := wrapu8 ((n : Int)) (n) (by omega)
      go_wp2
      exact ⟨⟨4, v0, v1, v2, (.int .u8 (((UInt8.ofNat (n)).toNat : Nat) : Int)), by omega, rfl, fun _ => hv0 (by omega), fun _ => hv1 (by omega), fun _ => hv2 (by omega), fun _ => rfl, hbs.out, hbl.setCell (p := ⟨w1.heap.size, 3, none⟩) (Nat.le_refl _) _⟩, by simp [intOf]⟩
    · obtain rfl := hv0 (by omega)
      obtain rfl := hv1 (by omega)
      obtain rfl := hv2 (by omega)
      obtain rfl := hv3 (by omega)
      have hcv := run_convert_bytes_back (P := Tryz.prog) wr 100 9 5 ⟨w1.heap.size, 0, none⟩ 4 [UInt8.ofNat (n / 16777216), UInt8.ofNat (n / 65536), UInt8.ofNat (n / 256), UInt8.ofNat (n)] Tryz.underlying100 Tryz.underlying5 Tryz.underlying9 (fun j hj => by
        simp only [List.length_cons, List.length_nil] at hj
        rw [add_at]
        rcases (show j = 0 ∨ j = 1 ∨ j = 2 ∨ j = 3 by omega) with rfl | rfl | rfl | rfl
        all_goals exact (cells_at hh rfl).1)
      simp only [List.length_cons, List.length_nil, Nat.zero_add, Nat.reduceAdd] at hcv
      clear hv0 hv1 hv2 hv3
      go_wp2
      go_ret
      exact ⟨by rw [HBB.out]; rfl, hbl⟩

theorem bytes4_in (n : Int) (w : World) : Calls Tryz.prog 38 #[.int .i64 n, .int .i64 4] w fun e w' => BytPost n 4 w e w' := by
  by_cases h0 : 0 ≤ n
  · by_cases h1 : n < 4294967296
    · obtain ⟨m, rfl⟩ : ∃ m : Nat, n = m := ⟨n.toNat, by omega⟩
      refine (bytes4_yes m (by omega) w).mono ?_
      rintro e w' ⟨rfl, hb⟩
      refine ⟨?_, hb⟩
      rw [if_pos ⟨h0, by omega⟩]
      rfl
    · have hsh : ¬ n / 4294967296 = 0 := by omega
      have hsb : (n / 4294967296 == 0) = false := by simpa using hsh
      go_enter Tryz.func38, Tryz.ntmps38
      go_wp2_with fail
      refine (must_no _).mono ?_
      rintro e w1 ⟨rfl, rfl⟩
      go_wp2
      refine ⟨rfl, ?_, Below.refl _ _⟩
      rw [if_neg (by omega)]
  · go_enter Tryz.func38, Tryz.ntmps38
    go_wp2_with fail
    refine (must_no _).mono ?_
    rintro e w1 ⟨rfl, rfl⟩
    go_wp2
    refine ⟨rfl, ?_, Below.refl _ _⟩
    rw [if_neg (by omega)]

end Go.Proofs.YtkohkkakbcjgcabGreatDoor

/- DNSKEY: taken apart, and put together. -/
namespace Go.Proofs.YtkohkkakbcjgcabGreatDoor
set_option linter.unusedVariables false
open Go.RowKit

theorem row_lit (W : World) (ps : List ByteArray) (h : ps.length ≤ maxLen) (h0 : 0 < ps.length) : (W.alloc (.cells (baV ps).toArray 9)).ownsRow W.heap.size 9 1 (.slice (some ⟨W.heap.size, 0, none⟩) ps.length ps.length) ps.length (baV ps) := by
  refine ⟨by simp [baV], .inr ⟨W.heap.size, ps.length, (baV ps).toArray, rfl, Nat.le_refl _, heap_new _ _, Nat.le_refl _, h, by simp [baV], ?_⟩⟩
  rw [Nat.mul_one, List.toList_toArray, List.take_of_length_le (by simp [baV])]

set_option maxRecDepth 100000 in
set_option maxHeartbeats 4000000 in
theorem putKey_in (n0 n1 n2 : Nat) (s3 : ByteArray) (h0 : n0 < 65536) (h1 : n1 < 256) (h2 : n2 < 256) (h3 : s3.size ≤ 2000) (W : World) (xb : Nat) (hx : W.heap[xb]? = some (.cells #[.int .i64 ((n0 : Nat) : Int), .int .i64 ((n1 : Nat) : Int), .int .i64 ((n2 : Nat) : Int), .string s3] 37 (0, 0))) :
    Calls Tryz.prog 40 #[boxV xb] W fun e w' => PutPost (some [⟨(bytesB n0 2).toArray⟩, ⟨(bytesB n1 1).toArray⟩, ⟨(bytesB n2 1).toArray⟩, s3]) W e w' := by
  have hmo : Tryz.prog.follows Departure.mixedOrders = true := by kernel_rfl
  have HL : Hid (∀ (G : Prop) (A B : World), A.heap[xb]? = some (.cells #[.int .i64 ((n0 : Nat) : Int), .int .i64 ((n1 : Nat) : Int), .int .i64 ((n2 : Nat) : Int), .string s3] 37 (0, 0)) → Below W.heap.size W A → Below A.heap.size A B → (B.heap[xb]? = some (.cells #[.int .i64 ((n0 : Nat) : Int), .int .i64 ((n1 : Nat) : Int), .int .i64 ((n2 : Nat) : Int), .string s3] 37 (0, 0)) → Below W.heap.size W B → B.cell? ⟨xb, 0, none⟩ = some (.int .i64 ((n0 : Nat) : Int)) → B.cell? ⟨xb, 1, none⟩ = some (.int .i64 ((n1 : Nat) : Int)) → B.cell? ⟨xb, 2, none⟩ = some (.int .i64 ((n2 : Nat) : Int)) → B.cell? ⟨xb, 3, none⟩ = some (.string s3) → G) → G) := by
    intro G A B hA hW hB hG
    have hB' := (hB.block xb (box_lt hA)).trans hA
    exact hG hB' (bth hW hB hW.size) (cells_at hB' rfl).1 (cells_at hB' rfl).1 (cells_at hB' rfl).1 (cells_at hB' rfl).1
  have c0 := (cells_at (v := .int .i64 ((n0 : Nat) : Int)) (j := 0) hx rfl).1
  have c1 := (cells_at (v := .int .i64 ((n1 : Nat) : Int)) (j := 1) hx rfl).1
  have c2 := (cells_at (v := .int .i64 ((n2 : Nat) : Int)) (j := 2) hx rfl).1
  have c3 := (cells_at (v := .string s3) (j := 3) hx rfl).1
  have HB0 := Hid.mk (bytes2_yes n0 h0)
  generalize (⟨(bytesB n0 2).toArray⟩ : ByteArray) = q0 at HB0 ⊢
  have HB1 := Hid.mk (bytes1_yes n1 h1)
  generalize (⟨(bytesB n1 1).toArray⟩ : ByteArray) = q1 at HB1 ⊢
  have HB2 := Hid.mk (bytes1_yes n2 h2)
  generalize (⟨(bytesB n2 1).toArray⟩ : ByteArray) = q2 at HB2 ⊢
  have X0 : W.drew.heap[xb]? = some (.cells #[.int .i64 ((n0 : Nat) : Int), .int .i64 ((n1 : Nat) : Int), .int .i64 ((n2 : Nat) : Int), .string s3] 37 (0, 0)) := hx
  have B0 : Below W.heap.size W W.drew := (Below.refl _ _).drew
  clear hx
  go_enter Tryz.func40, Tryz.ntmps40
  go_wp2
  go_region_held3 (fun w' => w'.cell? ⟨xb, 0, none⟩ = some (.int .i64 ((n0 : Nat) : Int)) ∧ w'.cell? ⟨xb, 1, none⟩ = some (.int .i64 ((n1 : Nat) : Int)) ∧ w'.cell? ⟨xb, 2, none⟩ = some (.int .i64 ((n2 : Nat) : Int)) ∧ w'.cell? ⟨xb, 3, none⟩ = some (.string s3)) (first | ((repeat' apply And.intro) <;> assumption) | go_keep)
    (first | (have hck := X2; clear hck; go_at_call 38; refine (HB2.out _).mono ?_; rintro e x3 ⟨rfl, y3⟩; refine HL.out _ _ x3 X2 B2 y3 ?_; intro X3 B3 d0_3 d1_3 d2_3 d3_3) | (have hck := X1; clear hck; go_at_call 38; refine (HB1.out _).mono ?_; rintro e x2 ⟨rfl, y2⟩; refine HL.out _ _ x2 X1 B1 y2 ?_; intro X2 B2 d0_2 d1_2 d2_2 d3_2) | (have hck := X0; clear hck; go_at_call 38; refine (HB0.out _).mono ?_; rintro e x1 ⟨rfl, y1⟩; refine HL.out _ _ x1 X0 B0 y1 ?_; intro X1 B1 d0_1 d1_1 d2_1 d3_1))
  have hsm := B3.size
  go_wp2
  go_ret
  exact ⟨⟨_, rfl, row_down (row_lit x3 [q0, q1, q2, s3] (by unfold maxLen; simp) (by simp)) hsm⟩, B3.alloc hsm _⟩

set_option maxRecDepth 100000 in
theorem ofKey_in (n0 n1 n2 : Nat) (s3 : ByteArray) (h0 : n0 < 65536) (h1 : n1 < 256) (h2 : n2 < 256) (h3 : s3.size ≤ 2000) (W : World) :
    Calls Tryz.prog 20 #[.agg #[.int .i64 ((n0 : Nat) : Int), .int .i64 ((n1 : Nat) : Int), .int .i64 ((n2 : Nat) : Int), .string s3]] W fun e w' => e = .returned (.tuple #[.string (strOf (joinR 48 (some [⟨(bytesB n0 2).toArray⟩, ⟨(bytesB n1 1).toArray⟩, ⟨(bytesB n2 1).toArray⟩, s3]))), .int .i64 (errOf (joinR 48 (some [⟨(bytesB n0 2).toArray⟩, ⟨(bytesB n1 1).toArray⟩, ⟨(bytesB n2 1).toArray⟩, s3])))]) ∧ Below W.heap.size W w' := by
  have hmf := mkf
  have hbw : Below W.heap.size W (W.alloc (.cells #[.int .i64 ((n0 : Nat) : Int), .int .i64 ((n1 : Nat) : Int), .int .i64 ((n2 : Nat) : Int), .string s3] 37)) := (Below.refl _ _).alloc (Nat.le_refl _) _
  have HJ := Hid.mk (joined_in (W.alloc (.cells #[.int .i64 ((n0 : Nat) : Int), .int .i64 ((n1 : Nat) : Int), .int .i64 ((n2 : Nat) : Int), .string s3] 37)) 48 40 #[boxV W.heap.size] (enters_by Tryz.func40 (by kernel_rfl) rfl) (some [⟨(bytesB n0 2).toArray⟩, ⟨(bytesB n1 1).toArray⟩, ⟨(bytesB n2 1).toArray⟩, s3]) (fun ps e => by
      cases e
      refine ⟨by simp, ?_⟩
      simp only [cat, app_size, ba_size, bytesB_len, List.length_nil]
      have : (⟨#[]⟩ : ByteArray).size = 0 := rfl
      omega) (fun W' hb => putKey_in n0 n1 n2 s3 h0 h1 h2 h3 W' W.heap.size ((hb.block _ (by simp)).trans (heap_new _ _))))
  generalize joinR 48 (some [⟨(bytesB n0 2).toArray⟩, ⟨(bytesB n1 1).toArray⟩, ⟨(bytesB n2 1).toArray⟩, s3]) = J at HJ ⊢
  go_enter Tryz.func20, Tryz.ntmps20
  go_wp2_with fail
  refine HJ.out.mono ?_
  rintro e w1 ⟨rfl, hb1⟩
  go_wp2
  go_ret2
  exact ⟨rfl, bth hbw hb1 hbw.size⟩

def TakeKey (d : ByteArray) (v : Value) (er : Int) : Prop := ∃ (n0 n1 n2 : Nat) (s3 : ByteArray), v = .agg #[.int .i64 ((n0 : Nat) : Int), .int .i64 ((n1 : Nat) : Int), .int .i64 ((n2 : Nat) : Int), .string s3] ∧ (n0 < 65536 ∧ n1 < 256 ∧ n2 < 256 ∧ s3.size ≤ 2000) ∧ (er = 0 → joinR 48 (some [⟨(bytesB n0 2).toArray⟩, ⟨(bytesB n1 1).toArray⟩, ⟨(bytesB n2 1).toArray⟩, s3]) = some d)
theorem takeKey_ok (d p0 p1 p2 p3 : ByteArray) (h : splitR 48 d = some [p0, p1, p2, p3]) : TakeKey d (.agg #[.int .i64 ((numB p0.data.toList : Nat) : Int), .int .i64 ((numB p1.data.toList : Nat) : Int), .int .i64 ((numB p2.data.toList : Nat) : Int), .string p3]) 0 ∧ (p0.size ≤ 7 ∧ p1.size ≤ 7 ∧ p2.size ≤ 7 ∧ p3.size ≤ 2000) := by
  obtain ⟨hk, hs, hd, hg⟩ := (split_iff 48 d _).1 h
  have hg' : p0.size = 2 ∧ p1.size = 1 ∧ p2.size = 1 ∧ 0 < p3.size ∧ True := hg
  have hcs : p0.size + p1.size + p2.size + p3.size ≤ 2000 := by
    rw [hd] at hs
    simp only [cat, app_size] at hs
    have : (⟨#[]⟩ : ByteArray).size = 0 := rfl
    omega
  have e0 : (⟨(bytesB (numB p0.data.toList) 2).toArray⟩ : ByteArray) = p0 := by
    apply ba_ext
    have := bytesB_num p0.data.toList (by rw [size_list]; omega)
    rw [size_list, show p0.size = 2 by omega] at this
    exact this
  have e1 : (⟨(bytesB (numB p1.data.toList) 1).toArray⟩ : ByteArray) = p1 := by
    apply ba_ext
    have := bytesB_num p1.data.toList (by rw [size_list]; omega)
    rw [size_list, show p1.size = 1 by omega] at this
    exact this
  have e2 : (⟨(bytesB (numB p2.data.toList) 1).toArray⟩ : ByteArray) = p2 := by
    apply ba_ext
    have := bytesB_num p2.data.toList (by rw [size_list]; omega)
    rw [size_list, show p2.size = 1 by omega] at this
    exact this
  have l0 : numB p0.data.toList < 65536 := by
    have := numB_lt p0.data.toList
    rw [size_list, show p0.size = 2 by omega] at this
    simpa using this
  have l1 : numB p1.data.toList < 256 := by
    have := numB_lt p1.data.toList
    rw [size_list, show p1.size = 1 by omega] at this
    simpa using this
  have l2 : numB p2.data.toList < 256 := by
    have := numB_lt p2.data.toList
    rw [size_list, show p2.size = 1 by omega] at this
    simpa using this
  refine ⟨⟨numB p0.data.toList, numB p1.data.toList, numB p2.data.toList, p3, rfl, ⟨l0, l1, l2, by omega⟩, fun _ => ?_⟩, by omega, by omega, by omega, by omega⟩
  rw [e0, e1, e2, joinR, ← hd, h]
  exact if_pos rfl
set_option maxRecDepth 100000 in
set_option maxHeartbeats 4000000 in
theorem takeKey_in (d : ByteArray) (hm : d.size ≤ maxLen) (W : World) :
    Calls Tryz.prog 14 #[.string d] W fun e w' => (∃ v er, e = .returned (.tuple #[v, .int .i64 er]) ∧ TakeKey d v er) ∧ Below W.heap.size W w' := by
  have HS := Hid.mk (split_all 48 d hm)
  have hmo : Tryz.prog.follows Departure.mixedOrders = true := by kernel_rfl
  have HN := Hid.mk number_in
  cases hsp : splitR 48 d with
  | none =>
    rw [hsp] at HS
    clear hsp
    go_enter Tryz.func14, Tryz.ntmps14
    go_wp2_with fail
    refine (HS.out _).mono ?_
    rintro e w1 ⟨rfl, hb1⟩
    have hbx := (hb1.block _ (by simp)).trans (heap_new W (.cells #[.int .i64 0, .int .i64 0, .int .i64 0, .string ⟨#[]⟩] 37))
    obtain ⟨a0, f0⟩ := cells_at (v := .int .i64 0) (j := 0) hbx rfl
    obtain ⟨a1, f1⟩ := cells_at (v := .int .i64 0) (j := 1) hbx rfl
    obtain ⟨a2, f2⟩ := cells_at (v := .int .i64 0) (j := 2) hbx rfl
    obtain ⟨a3, f3⟩ := cells_at (v := .string ⟨#[]⟩) (j := 3) hbx rfl
    have HBX := Hid.mk hbx
    clear hbx
    go_wp2
    have hfin : (((((w1.setCell ⟨W.heap.size, 0, none⟩ (.int .i64 0)).setCell ⟨W.heap.size, 1, none⟩ (.int .i64 0)).setCell ⟨W.heap.size, 2, none⟩ (.int .i64 0)).setCell ⟨W.heap.size, 3, none⟩ (.string ⟨#[]⟩))).heap[W.heap.size]? = some (.cells #[.int .i64 0, .int .i64 0, .int .i64 0, .string ⟨#[]⟩] 37 (0, 0)) := cells_put (j := 3) (cells_put (j := 2) (cells_put (j := 1) (cells_put (j := 0) (HBX.out) (.int .i64 0)) (.int .i64 0)) (.int .i64 0)) (.string ⟨#[]⟩)
    refine bodyPost_ret (v := .tuple #[.agg #[.int .i64 0, .int .i64 0, .int .i64 0, .string ⟨#[]⟩], .int .i64 6]) (by simp [results, Tryz.results14, go_sem, (cells_at (v := .int .i64 0) (j := 0) hfin rfl).1, (cells_at (v := .int .i64 0) (j := 1) hfin rfl).1, (cells_at (v := .int .i64 0) (j := 2) hfin rfl).1, (cells_at (v := .string ⟨#[]⟩) (j := 3) hfin rfl).1]) rfl ⟨⟨_, _, rfl, 0, 0, 0, ⟨#[]⟩, rfl, ⟨by decide, by decide, by decide, by decide⟩, fun h => by cases h⟩, ?_⟩
    exact (((((((Below.refl _ _).alloc (Nat.le_refl _) _).trans (hb1.mono (by simp)))).setCell (p := ⟨W.heap.size, 0, none⟩) (Nat.le_refl _) _).setCell (p := ⟨W.heap.size, 1, none⟩) (Nat.le_refl _) _).setCell (p := ⟨W.heap.size, 2, none⟩) (Nat.le_refl _) _).setCell (p := ⟨W.heap.size, 3, none⟩) (Nat.le_refl _) _
  | some ps =>
    obtain ⟨p0, p1, p2, p3, hps⟩ : ∃ p0 p1 p2 p3, ps = [p0, p1, p2, p3] := by
      have hl := ((split_iff 48 d ps).1 hsp).2.2.2.len
      match ps, hl with
      | [p0, p1, p2, p3], _ => exact ⟨_, _, _, _, rfl⟩
    subst hps
    obtain ⟨hT, z0, z1, z2, z3⟩ := takeKey_ok d p0 p1 p2 p3 hsp
    rw [hsp] at HS
    clear hsp
    have HN0 := Hid.mk (number_in p0 z0)
    generalize numB p0.data.toList = m0 at HN0 hT
    have HN1 := Hid.mk (number_in p1 z1)
    generalize numB p1.data.toList = m1 at HN1 hT
    have HN2 := Hid.mk (number_in p2 z2)
    generalize numB p2.data.toList = m2 at HN2 hT
    have HT := Hid.mk hT
    clear hT
    go_enter Tryz.func14, Tryz.ntmps14
    go_wp2_with fail
    refine (HS.out _).mono ?_
    rintro e w1 ⟨⟨v, rfl, hrow⟩, hb1⟩
    obtain ⟨q, c, hv⟩ := row_as hrow
    subst hv
    obtain ⟨g, hq, _, _⟩ := row_cell hrow 0 (by simp)
    subst hq
    obtain ⟨_, _, hgb⟩ := row_frozen (j := 0) hrow (by simp)
    simp only [World.size_alloc] at hgb
    have hgne : g ≠ W.heap.size := by omega
    have hgne2 : W.heap.size ≠ g := by omega
    have r0 : w1.cell? ⟨g, 0, none⟩ = some (.string p0) := row_at hrow 0 p0 rfl
    have r1 : w1.cell? ⟨g, 1, none⟩ = some (.string p1) := row_at hrow 1 p1 rfl
    have r2 : w1.cell? ⟨g, 2, none⟩ = some (.string p2) := row_at hrow 2 p2 rfl
    have r3 : w1.cell? ⟨g, 3, none⟩ = some (.string p3) := row_at hrow 3 p3 rfl
    have hbx := (hb1.block _ (by simp)).trans (heap_new W (.cells #[.int .i64 0, .int .i64 0, .int .i64 0, .string ⟨#[]⟩] 37))
    obtain ⟨a0, f0⟩ := cells_at (v := .int .i64 0) (j := 0) hbx rfl
    obtain ⟨a1, f1⟩ := cells_at (v := .int .i64 0) (j := 1) hbx rfl
    obtain ⟨a2, f2⟩ := cells_at (v := .int .i64 0) (j := 2) hbx rfl
    obtain ⟨a3, f3⟩ := cells_at (v := .string ⟨#[]⟩) (j := 3) hbx rfl
    have HBX := Hid.mk hbx
    have mk0 : True := trivial
    clear hbx hrow
    go_wp2
    go_region_held3 (fun w' => w'.cell? ⟨g, 0, none⟩ = some (.string p0) ∧ w'.cell? ⟨g, 1, none⟩ = some (.string p1) ∧ w'.cell? ⟨g, 2, none⟩ = some (.string p2) ∧ w'.cell? ⟨g, 3, none⟩ = some (.string p3)) (first | ((repeat' apply And.intro) <;> assumption) | go_keep)
      (first | (have hck := mk2; clear hck; go_at_call 34; refine (HN2.out _).mono ?_; rintro e x3 ⟨rfl, rfl⟩; have mk3 : True := trivial) | (have hck := mk1; clear hck; go_at_call 34; refine (HN1.out _).mono ?_; rintro e x2 ⟨rfl, rfl⟩; have mk2 : True := trivial) | (have hck := mk0; clear hck; go_at_call 34; refine (HN0.out _).mono ?_; rintro e x1 ⟨rfl, rfl⟩; have mk1 : True := trivial))
    go_wp2
    have hfin : (((((w1.setCell ⟨W.heap.size, 0, none⟩ (.int .i64 ((m0 : Nat) : Int))).setCell ⟨W.heap.size, 1, none⟩ (.int .i64 ((m1 : Nat) : Int))).setCell ⟨W.heap.size, 2, none⟩ (.int .i64 ((m2 : Nat) : Int))).setCell ⟨W.heap.size, 3, none⟩ (.string p3))).drew.heap[W.heap.size]? = some (.cells #[.int .i64 ((m0 : Nat) : Int), .int .i64 ((m1 : Nat) : Int), .int .i64 ((m2 : Nat) : Int), .string p3] 37 (0, 0)) := cells_put (j := 3) (cells_put (j := 2) (cells_put (j := 1) (cells_put (j := 0) (HBX.out) (.int .i64 ((m0 : Nat) : Int))) (.int .i64 ((m1 : Nat) : Int))) (.int .i64 ((m2 : Nat) : Int))) (.string p3)
    refine bodyPost_ret (v := .tuple #[.agg #[.int .i64 ((m0 : Nat) : Int), .int .i64 ((m1 : Nat) : Int), .int .i64 ((m2 : Nat) : Int), .string p3], .int .i64 0]) (by simp [results, Tryz.results14, go_sem, (cells_at (v := .int .i64 ((m0 : Nat) : Int)) (j := 0) hfin rfl).1, (cells_at (v := .int .i64 ((m1 : Nat) : Int)) (j := 1) hfin rfl).1, (cells_at (v := .int .i64 ((m2 : Nat) : Int)) (j := 2) hfin rfl).1, (cells_at (v := .string p3) (j := 3) hfin rfl).1]) rfl ⟨⟨_, _, rfl, HT.out⟩, ?_⟩
    exact ((((((((Below.refl _ _).alloc (Nat.le_refl _) _).trans (hb1.mono (by simp)))).setCell (p := ⟨W.heap.size, 0, none⟩) (Nat.le_refl _) _).setCell (p := ⟨W.heap.size, 1, none⟩) (Nat.le_refl _) _).setCell (p := ⟨W.heap.size, 2, none⟩) (Nat.le_refl _) _).setCell (p := ⟨W.heap.size, 3, none⟩) (Nat.le_refl _) _).drew

end Go.Proofs.YtkohkkakbcjgcabGreatDoor

/- DS: taken apart, and put together. -/
namespace Go.Proofs.YtkohkkakbcjgcabGreatDoor
set_option linter.unusedVariables false
open Go.RowKit

set_option maxRecDepth 100000 in
set_option maxHeartbeats 4000000 in
theorem putDs_in (n0 n1 n2 : Nat) (s3 : ByteArray) (h0 : n0 < 65536) (h1 : n1 < 256) (h2 : n2 < 256) (h3 : s3.size ≤ 2000) (W : World) (xb : Nat) (hx : W.heap[xb]? = some (.cells #[.int .i64 ((n0 : Nat) : Int), .int .i64 ((n1 : Nat) : Int), .int .i64 ((n2 : Nat) : Int), .string s3] 41 (0, 0))) :
    Calls Tryz.prog 41 #[boxV xb] W fun e w' => PutPost (some [⟨(bytesB n0 2).toArray⟩, ⟨(bytesB n1 1).toArray⟩, ⟨(bytesB n2 1).toArray⟩, s3]) W e w' := by
  have hmo : Tryz.prog.follows Departure.mixedOrders = true := by kernel_rfl
  have HL : Hid (∀ (G : Prop) (A B : World), A.heap[xb]? = some (.cells #[.int .i64 ((n0 : Nat) : Int), .int .i64 ((n1 : Nat) : Int), .int .i64 ((n2 : Nat) : Int), .string s3] 41 (0, 0)) → Below W.heap.size W A → Below A.heap.size A B → (B.heap[xb]? = some (.cells #[.int .i64 ((n0 : Nat) : Int), .int .i64 ((n1 : Nat) : Int), .int .i64 ((n2 : Nat) : Int), .string s3] 41 (0, 0)) → Below W.heap.size W B → B.cell? ⟨xb, 0, none⟩ = some (.int .i64 ((n0 : Nat) : Int)) → B.cell? ⟨xb, 1, none⟩ = some (.int .i64 ((n1 : Nat) : Int)) → B.cell? ⟨xb, 2, none⟩ = some (.int .i64 ((n2 : Nat) : Int)) → B.cell? ⟨xb, 3, none⟩ = some (.string s3) → G) → G) := by
    intro G A B hA hW hB hG
    have hB' := (hB.block xb (box_lt hA)).trans hA
    exact hG hB' (bth hW hB hW.size) (cells_at hB' rfl).1 (cells_at hB' rfl).1 (cells_at hB' rfl).1 (cells_at hB' rfl).1
  have c0 := (cells_at (v := .int .i64 ((n0 : Nat) : Int)) (j := 0) hx rfl).1
  have c1 := (cells_at (v := .int .i64 ((n1 : Nat) : Int)) (j := 1) hx rfl).1
  have c2 := (cells_at (v := .int .i64 ((n2 : Nat) : Int)) (j := 2) hx rfl).1
  have c3 := (cells_at (v := .string s3) (j := 3) hx rfl).1
  have HB0 := Hid.mk (bytes2_yes n0 h0)
  generalize (⟨(bytesB n0 2).toArray⟩ : ByteArray) = q0 at HB0 ⊢
  have HB1 := Hid.mk (bytes1_yes n1 h1)
  generalize (⟨(bytesB n1 1).toArray⟩ : ByteArray) = q1 at HB1 ⊢
  have HB2 := Hid.mk (bytes1_yes n2 h2)
  generalize (⟨(bytesB n2 1).toArray⟩ : ByteArray) = q2 at HB2 ⊢
  have X0 : W.drew.heap[xb]? = some (.cells #[.int .i64 ((n0 : Nat) : Int), .int .i64 ((n1 : Nat) : Int), .int .i64 ((n2 : Nat) : Int), .string s3] 41 (0, 0)) := hx
  have B0 : Below W.heap.size W W.drew := (Below.refl _ _).drew
  clear hx
  go_enter Tryz.func41, Tryz.ntmps41
  go_wp2
  go_region_held3 (fun w' => w'.cell? ⟨xb, 0, none⟩ = some (.int .i64 ((n0 : Nat) : Int)) ∧ w'.cell? ⟨xb, 1, none⟩ = some (.int .i64 ((n1 : Nat) : Int)) ∧ w'.cell? ⟨xb, 2, none⟩ = some (.int .i64 ((n2 : Nat) : Int)) ∧ w'.cell? ⟨xb, 3, none⟩ = some (.string s3)) (first | ((repeat' apply And.intro) <;> assumption) | go_keep)
    (first | (have hck := X2; clear hck; go_at_call 38; refine (HB2.out _).mono ?_; rintro e x3 ⟨rfl, y3⟩; refine HL.out _ _ x3 X2 B2 y3 ?_; intro X3 B3 d0_3 d1_3 d2_3 d3_3) | (have hck := X1; clear hck; go_at_call 38; refine (HB1.out _).mono ?_; rintro e x2 ⟨rfl, y2⟩; refine HL.out _ _ x2 X1 B1 y2 ?_; intro X2 B2 d0_2 d1_2 d2_2 d3_2) | (have hck := X0; clear hck; go_at_call 38; refine (HB0.out _).mono ?_; rintro e x1 ⟨rfl, y1⟩; refine HL.out _ _ x1 X0 B0 y1 ?_; intro X1 B1 d0_1 d1_1 d2_1 d3_1))
  have hsm := B3.size
  go_wp2
  go_ret
  exact ⟨⟨_, rfl, row_down (row_lit x3 [q0, q1, q2, s3] (by unfold maxLen; simp) (by simp)) hsm⟩, B3.alloc hsm _⟩

set_option maxRecDepth 100000 in
theorem ofDs_in (n0 n1 n2 : Nat) (s3 : ByteArray) (h0 : n0 < 65536) (h1 : n1 < 256) (h2 : n2 < 256) (h3 : s3.size ≤ 2000) (W : World) :
    Calls Tryz.prog 21 #[.agg #[.int .i64 ((n0 : Nat) : Int), .int .i64 ((n1 : Nat) : Int), .int .i64 ((n2 : Nat) : Int), .string s3]] W fun e w' => e = .returned (.tuple #[.string (strOf (joinR 43 (some [⟨(bytesB n0 2).toArray⟩, ⟨(bytesB n1 1).toArray⟩, ⟨(bytesB n2 1).toArray⟩, s3]))), .int .i64 (errOf (joinR 43 (some [⟨(bytesB n0 2).toArray⟩, ⟨(bytesB n1 1).toArray⟩, ⟨(bytesB n2 1).toArray⟩, s3])))]) ∧ Below W.heap.size W w' := by
  have hmf := mkf
  have hbw : Below W.heap.size W (W.alloc (.cells #[.int .i64 ((n0 : Nat) : Int), .int .i64 ((n1 : Nat) : Int), .int .i64 ((n2 : Nat) : Int), .string s3] 41)) := (Below.refl _ _).alloc (Nat.le_refl _) _
  have HJ := Hid.mk (joined_in (W.alloc (.cells #[.int .i64 ((n0 : Nat) : Int), .int .i64 ((n1 : Nat) : Int), .int .i64 ((n2 : Nat) : Int), .string s3] 41)) 43 41 #[boxV W.heap.size] (enters_by Tryz.func41 (by kernel_rfl) rfl) (some [⟨(bytesB n0 2).toArray⟩, ⟨(bytesB n1 1).toArray⟩, ⟨(bytesB n2 1).toArray⟩, s3]) (fun ps e => by
      cases e
      refine ⟨by simp, ?_⟩
      simp only [cat, app_size, ba_size, bytesB_len, List.length_nil]
      have : (⟨#[]⟩ : ByteArray).size = 0 := rfl
      omega) (fun W' hb => putDs_in n0 n1 n2 s3 h0 h1 h2 h3 W' W.heap.size ((hb.block _ (by simp)).trans (heap_new _ _))))
  generalize joinR 43 (some [⟨(bytesB n0 2).toArray⟩, ⟨(bytesB n1 1).toArray⟩, ⟨(bytesB n2 1).toArray⟩, s3]) = J at HJ ⊢
  go_enter Tryz.func21, Tryz.ntmps21
  go_wp2_with fail
  refine HJ.out.mono ?_
  rintro e w1 ⟨rfl, hb1⟩
  go_wp2
  go_ret2
  exact ⟨rfl, bth hbw hb1 hbw.size⟩

def TakeDs (d : ByteArray) (v : Value) (er : Int) : Prop := ∃ (n0 n1 n2 : Nat) (s3 : ByteArray), v = .agg #[.int .i64 ((n0 : Nat) : Int), .int .i64 ((n1 : Nat) : Int), .int .i64 ((n2 : Nat) : Int), .string s3] ∧ (n0 < 65536 ∧ n1 < 256 ∧ n2 < 256 ∧ s3.size ≤ 2000) ∧ (er = 0 → joinR 43 (some [⟨(bytesB n0 2).toArray⟩, ⟨(bytesB n1 1).toArray⟩, ⟨(bytesB n2 1).toArray⟩, s3]) = some d)
theorem takeDs_ok (d p0 p1 p2 p3 : ByteArray) (h : splitR 43 d = some [p0, p1, p2, p3]) : TakeDs d (.agg #[.int .i64 ((numB p0.data.toList : Nat) : Int), .int .i64 ((numB p1.data.toList : Nat) : Int), .int .i64 ((numB p2.data.toList : Nat) : Int), .string p3]) 0 ∧ (p0.size ≤ 7 ∧ p1.size ≤ 7 ∧ p2.size ≤ 7 ∧ p3.size ≤ 2000) := by
  obtain ⟨hk, hs, hd, hg⟩ := (split_iff 43 d _).1 h
  have hg' : p0.size = 2 ∧ p1.size = 1 ∧ p2.size = 1 ∧ 0 < p3.size ∧ True := hg
  have hcs : p0.size + p1.size + p2.size + p3.size ≤ 2000 := by
    rw [hd] at hs
    simp only [cat, app_size] at hs
    have : (⟨#[]⟩ : ByteArray).size = 0 := rfl
    omega
  have e0 : (⟨(bytesB (numB p0.data.toList) 2).toArray⟩ : ByteArray) = p0 := by
    apply ba_ext
    have := bytesB_num p0.data.toList (by rw [size_list]; omega)
    rw [size_list, show p0.size = 2 by omega] at this
    exact this
  have e1 : (⟨(bytesB (numB p1.data.toList) 1).toArray⟩ : ByteArray) = p1 := by
    apply ba_ext
    have := bytesB_num p1.data.toList (by rw [size_list]; omega)
    rw [size_list, show p1.size = 1 by omega] at this
    exact this
  have e2 : (⟨(bytesB (numB p2.data.toList) 1).toArray⟩ : ByteArray) = p2 := by
    apply ba_ext
    have := bytesB_num p2.data.toList (by rw [size_list]; omega)
    rw [size_list, show p2.size = 1 by omega] at this
    exact this
  have l0 : numB p0.data.toList < 65536 := by
    have := numB_lt p0.data.toList
    rw [size_list, show p0.size = 2 by omega] at this
    simpa using this
  have l1 : numB p1.data.toList < 256 := by
    have := numB_lt p1.data.toList
    rw [size_list, show p1.size = 1 by omega] at this
    simpa using this
  have l2 : numB p2.data.toList < 256 := by
    have := numB_lt p2.data.toList
    rw [size_list, show p2.size = 1 by omega] at this
    simpa using this
  refine ⟨⟨numB p0.data.toList, numB p1.data.toList, numB p2.data.toList, p3, rfl, ⟨l0, l1, l2, by omega⟩, fun _ => ?_⟩, by omega, by omega, by omega, by omega⟩
  rw [e0, e1, e2, joinR, ← hd, h]
  exact if_pos rfl
set_option maxRecDepth 100000 in
set_option maxHeartbeats 4000000 in
theorem takeDs_in (d : ByteArray) (hm : d.size ≤ maxLen) (W : World) :
    Calls Tryz.prog 15 #[.string d] W fun e w' => (∃ v er, e = .returned (.tuple #[v, .int .i64 er]) ∧ TakeDs d v er) ∧ Below W.heap.size W w' := by
  have HS := Hid.mk (split_all 43 d hm)
  have hmo : Tryz.prog.follows Departure.mixedOrders = true := by kernel_rfl
  have HN := Hid.mk number_in
  cases hsp : splitR 43 d with
  | none =>
    rw [hsp] at HS
    clear hsp
    go_enter Tryz.func15, Tryz.ntmps15
    go_wp2_with fail
    refine (HS.out _).mono ?_
    rintro e w1 ⟨rfl, hb1⟩
    have hbx := (hb1.block _ (by simp)).trans (heap_new W (.cells #[.int .i64 0, .int .i64 0, .int .i64 0, .string ⟨#[]⟩] 41))
    obtain ⟨a0, f0⟩ := cells_at (v := .int .i64 0) (j := 0) hbx rfl
    obtain ⟨a1, f1⟩ := cells_at (v := .int .i64 0) (j := 1) hbx rfl
    obtain ⟨a2, f2⟩ := cells_at (v := .int .i64 0) (j := 2) hbx rfl
    obtain ⟨a3, f3⟩ := cells_at (v := .string ⟨#[]⟩) (j := 3) hbx rfl
    have HBX := Hid.mk hbx
    clear hbx
    go_wp2
    have hfin : (((((w1.setCell ⟨W.heap.size, 0, none⟩ (.int .i64 0)).setCell ⟨W.heap.size, 1, none⟩ (.int .i64 0)).setCell ⟨W.heap.size, 2, none⟩ (.int .i64 0)).setCell ⟨W.heap.size, 3, none⟩ (.string ⟨#[]⟩))).heap[W.heap.size]? = some (.cells #[.int .i64 0, .int .i64 0, .int .i64 0, .string ⟨#[]⟩] 41 (0, 0)) := cells_put (j := 3) (cells_put (j := 2) (cells_put (j := 1) (cells_put (j := 0) (HBX.out) (.int .i64 0)) (.int .i64 0)) (.int .i64 0)) (.string ⟨#[]⟩)
    refine bodyPost_ret (v := .tuple #[.agg #[.int .i64 0, .int .i64 0, .int .i64 0, .string ⟨#[]⟩], .int .i64 6]) (by simp [results, Tryz.results15, go_sem, (cells_at (v := .int .i64 0) (j := 0) hfin rfl).1, (cells_at (v := .int .i64 0) (j := 1) hfin rfl).1, (cells_at (v := .int .i64 0) (j := 2) hfin rfl).1, (cells_at (v := .string ⟨#[]⟩) (j := 3) hfin rfl).1]) rfl ⟨⟨_, _, rfl, 0, 0, 0, ⟨#[]⟩, rfl, ⟨by decide, by decide, by decide, by decide⟩, fun h => by cases h⟩, ?_⟩
    exact (((((((Below.refl _ _).alloc (Nat.le_refl _) _).trans (hb1.mono (by simp)))).setCell (p := ⟨W.heap.size, 0, none⟩) (Nat.le_refl _) _).setCell (p := ⟨W.heap.size, 1, none⟩) (Nat.le_refl _) _).setCell (p := ⟨W.heap.size, 2, none⟩) (Nat.le_refl _) _).setCell (p := ⟨W.heap.size, 3, none⟩) (Nat.le_refl _) _
  | some ps =>
    obtain ⟨p0, p1, p2, p3, hps⟩ : ∃ p0 p1 p2 p3, ps = [p0, p1, p2, p3] := by
      have hl := ((split_iff 43 d ps).1 hsp).2.2.2.len
      match ps, hl with
      | [p0, p1, p2, p3], _ => exact ⟨_, _, _, _, rfl⟩
    subst hps
    obtain ⟨hT, z0, z1, z2, z3⟩ := takeDs_ok d p0 p1 p2 p3 hsp
    rw [hsp] at HS
    clear hsp
    have HN0 := Hid.mk (number_in p0 z0)
    generalize numB p0.data.toList = m0 at HN0 hT
    have HN1 := Hid.mk (number_in p1 z1)
    generalize numB p1.data.toList = m1 at HN1 hT
    have HN2 := Hid.mk (number_in p2 z2)
    generalize numB p2.data.toList = m2 at HN2 hT
    have HT := Hid.mk hT
    clear hT
    go_enter Tryz.func15, Tryz.ntmps15
    go_wp2_with fail
    refine (HS.out _).mono ?_
    rintro e w1 ⟨⟨v, rfl, hrow⟩, hb1⟩
    obtain ⟨q, c, hv⟩ := row_as hrow
    subst hv
    obtain ⟨g, hq, _, _⟩ := row_cell hrow 0 (by simp)
    subst hq
    obtain ⟨_, _, hgb⟩ := row_frozen (j := 0) hrow (by simp)
    simp only [World.size_alloc] at hgb
    have hgne : g ≠ W.heap.size := by omega
    have hgne2 : W.heap.size ≠ g := by omega
    have r0 : w1.cell? ⟨g, 0, none⟩ = some (.string p0) := row_at hrow 0 p0 rfl
    have r1 : w1.cell? ⟨g, 1, none⟩ = some (.string p1) := row_at hrow 1 p1 rfl
    have r2 : w1.cell? ⟨g, 2, none⟩ = some (.string p2) := row_at hrow 2 p2 rfl
    have r3 : w1.cell? ⟨g, 3, none⟩ = some (.string p3) := row_at hrow 3 p3 rfl
    have hbx := (hb1.block _ (by simp)).trans (heap_new W (.cells #[.int .i64 0, .int .i64 0, .int .i64 0, .string ⟨#[]⟩] 41))
    obtain ⟨a0, f0⟩ := cells_at (v := .int .i64 0) (j := 0) hbx rfl
    obtain ⟨a1, f1⟩ := cells_at (v := .int .i64 0) (j := 1) hbx rfl
    obtain ⟨a2, f2⟩ := cells_at (v := .int .i64 0) (j := 2) hbx rfl
    obtain ⟨a3, f3⟩ := cells_at (v := .string ⟨#[]⟩) (j := 3) hbx rfl
    have HBX := Hid.mk hbx
    have mk0 : True := trivial
    clear hbx hrow
    go_wp2
    go_region_held3 (fun w' => w'.cell? ⟨g, 0, none⟩ = some (.string p0) ∧ w'.cell? ⟨g, 1, none⟩ = some (.string p1) ∧ w'.cell? ⟨g, 2, none⟩ = some (.string p2) ∧ w'.cell? ⟨g, 3, none⟩ = some (.string p3)) (first | ((repeat' apply And.intro) <;> assumption) | go_keep)
      (first | (have hck := mk2; clear hck; go_at_call 34; refine (HN2.out _).mono ?_; rintro e x3 ⟨rfl, rfl⟩; have mk3 : True := trivial) | (have hck := mk1; clear hck; go_at_call 34; refine (HN1.out _).mono ?_; rintro e x2 ⟨rfl, rfl⟩; have mk2 : True := trivial) | (have hck := mk0; clear hck; go_at_call 34; refine (HN0.out _).mono ?_; rintro e x1 ⟨rfl, rfl⟩; have mk1 : True := trivial))
    go_wp2
    have hfin : (((((w1.setCell ⟨W.heap.size, 0, none⟩ (.int .i64 ((m0 : Nat) : Int))).setCell ⟨W.heap.size, 1, none⟩ (.int .i64 ((m1 : Nat) : Int))).setCell ⟨W.heap.size, 2, none⟩ (.int .i64 ((m2 : Nat) : Int))).setCell ⟨W.heap.size, 3, none⟩ (.string p3))).drew.heap[W.heap.size]? = some (.cells #[.int .i64 ((m0 : Nat) : Int), .int .i64 ((m1 : Nat) : Int), .int .i64 ((m2 : Nat) : Int), .string p3] 41 (0, 0)) := cells_put (j := 3) (cells_put (j := 2) (cells_put (j := 1) (cells_put (j := 0) (HBX.out) (.int .i64 ((m0 : Nat) : Int))) (.int .i64 ((m1 : Nat) : Int))) (.int .i64 ((m2 : Nat) : Int))) (.string p3)
    refine bodyPost_ret (v := .tuple #[.agg #[.int .i64 ((m0 : Nat) : Int), .int .i64 ((m1 : Nat) : Int), .int .i64 ((m2 : Nat) : Int), .string p3], .int .i64 0]) (by simp [results, Tryz.results15, go_sem, (cells_at (v := .int .i64 ((m0 : Nat) : Int)) (j := 0) hfin rfl).1, (cells_at (v := .int .i64 ((m1 : Nat) : Int)) (j := 1) hfin rfl).1, (cells_at (v := .int .i64 ((m2 : Nat) : Int)) (j := 2) hfin rfl).1, (cells_at (v := .string p3) (j := 3) hfin rfl).1]) rfl ⟨⟨_, _, rfl, HT.out⟩, ?_⟩
    exact ((((((((Below.refl _ _).alloc (Nat.le_refl _) _).trans (hb1.mono (by simp)))).setCell (p := ⟨W.heap.size, 0, none⟩) (Nat.le_refl _) _).setCell (p := ⟨W.heap.size, 1, none⟩) (Nat.le_refl _) _).setCell (p := ⟨W.heap.size, 2, none⟩) (Nat.le_refl _) _).setCell (p := ⟨W.heap.size, 3, none⟩) (Nat.le_refl _) _).drew

end Go.Proofs.YtkohkkakbcjgcabGreatDoor
