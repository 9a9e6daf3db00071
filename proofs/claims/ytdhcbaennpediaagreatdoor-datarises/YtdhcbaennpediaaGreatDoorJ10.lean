/- Texts of this proof, joined: DBytes, DTyAdd, DTyAdd2. -/
import Derived.Test.YtdhcbaennpediaaGreatDoorJ5
import Derived.BigRegion
import Derived.Deep.RegionHeld3
import Derived.Test.YtdhcbaennpediaaGreatDoorJ7
import Derived.Test.YtdhcbaennpediaaGreatDoorJ9
/- bytesOf: a number as one, two or four bytes. -/
namespace Go.Proofs.YtdhcbaennpediaaGreatDoor
set_option linter.unusedVariables false
set_option linter.unusedSimpArgs false
open Go.RowKit

/-- a number as so many bytes. -/
def bytesB (n w : Nat) : List UInt8 := (List.range w).map fun i => UInt8.ofNat (n / 256 ^ (w - 1 - i))
theorem bytesB_len (n w : Nat) : (bytesB n w).length = w := by simp [bytesB]
theorem byte_back (q : Nat) (b : UInt8) (h : q % 256 = b.toNat) : UInt8.ofNat q = b := by
  apply UInt8.toNat_inj.1
  rw [UInt8.toNat_ofNat']
  exact h
theorem bytesB1 (n : Nat) : bytesB n 1 = [UInt8.ofNat n] := by simp [bytesB, List.range_succ]
theorem bytesB2 (n : Nat) : bytesB n 2 = [UInt8.ofNat (n / 256), UInt8.ofNat n] := by simp [bytesB, List.range_succ]
theorem bytesB4 (n : Nat) : bytesB n 4 = [UInt8.ofNat (n / 16777216), UInt8.ofNat (n / 65536), UInt8.ofNat (n / 256), UInt8.ofNat n] := by simp [bytesB, List.range_succ]
theorem bytesB_num (l : List UInt8) (h : l.length = 1 ∨ l.length = 2 ∨ l.length = 4) : bytesB (numB l) l.length = l := by
  rcases h with h | h | h
  · match l, h with
    | [a], _ =>
      have ha := a.toNat_lt
      rw [show [a].length = 1 from rfl, bytesB1, byte_back (numB [a]) a (by simp only [numB, List.foldl]; omega)]
  · match l, h with
    | [a, b], _ =>
      have ha := a.toNat_lt
      have hb := b.toNat_lt
      rw [show [a, b].length = 2 from rfl, bytesB2, byte_back (numB [a, b] / 256) a (by simp only [numB, List.foldl]; omega), byte_back (numB [a, b]) b (by simp only [numB, List.foldl]; omega)]
  · match l, h with
    | [a, b, c, d], _ =>
      have ha := a.toNat_lt
      have hb := b.toNat_lt
      have hc := c.toNat_lt
      have hd := d.toNat_lt
      rw [show [a, b, c, d].length = 4 from rfl, bytesB4, byte_back (numB [a, b, c, d] / 16777216) a (by simp only [numB, List.foldl]; omega), byte_back (numB [a, b, c, d] / 65536) b (by simp only [numB, List.foldl]; omega), byte_back (numB [a, b, c, d] / 256) c (by simp only [numB, List.foldl]; omega), byte_back (numB [a, b, c, d]) d (by simp only [numB, List.foldl]; omega)]

theorem cells_put {W : World} {b j : Nat} {cs : Array Value} {t : TypeId} (h : W.heap[b]? = some (.cells cs t (0, 0))) (u : Value) : (W.setCell ⟨b, j, none⟩ u).heap[b]? = some (.cells (cs.setIfInBounds j u) t (0, 0)) := by
  simp only [World.setCell, Array.getElem?_modify, h]
  rfl
theorem cells_at {W : World} {b j : Nat} {cs : Array Value} {t : TypeId} {v : Value} (h : W.heap[b]? = some (.cells cs t (0, 0))) (hj : cs[j]? = some v) : W.cell? ⟨b, j, none⟩ = some v ∧ W.frozen? ⟨b, j, none⟩ = false := by
  simp [World.cell?, World.frozen?, h, hj]
theorem wrapu8 (x : Int) (q : Nat) (h : x = (q : Int)) : IntKind.u8.wrap x = (((UInt8.ofNat q).toNat : Nat) : Int) := by
  rw [IntKind.wrap_u8, UInt8.toNat_ofNat', h]
  omega

def BytPost (n : Int) (w : Nat) (W : World) (e : Ending) (w' : World) : Prop := (if 0 ≤ n ∧ n < 256 ^ w then e = .returned (.string ⟨(bytesB n.toNat w).toArray⟩) else e = .panicked mustV) ∧ Below W.heap.size W w'

set_option maxRecDepth 100000 in
set_option maxHeartbeats 2000000 in
theorem bytes1_yes (n : Nat) (hn : n < 256) (w : World) :
    Calls Tryz.prog 46 #[.int .i64 (n : Int), .int .i64 1] w fun e w' => e = .returned (.string ⟨(bytesB n 1).toArray⟩) ∧ Below w.heap.size w w' := by
  obtain ⟨i0, hi, hz0, hz1, hz2⟩ := info_parts info5
  have hsh : (n : Int) / 256 = 0 := by omega
  have HBB : Hid ((⟨(bytesB n 1).toArray⟩ : ByteArray) = ⟨([UInt8.ofNat (n)] : List UInt8).toArray⟩) := by
    rw [Hid]
    simp [bytesB, List.range_succ]
  go_enter Tryz.func46, Tryz.ntmps46
  go_wp2_with fail
  refine (must_yes _).mono ?_
  rintro e w1 ⟨rfl, rfl⟩
  obtain ⟨M, hM⟩ : ∃ M, M = madeCells (Value.int .u8 0).cells (((1 : Nat) : Int).toNat * i0.size) := ⟨_, rfl⟩
  have hMs : M.size = 1 := by rw [hM, size_madeCells, hz1]; simp
  have hmk : ∀ W : World, (Instr.makeSlice 118 (.int .i64 1) (.int .i64 1)).run Tryz.prog W = .ok (.slice (some ⟨W.heap.size, 0, none⟩) 1 1) (W.alloc (.cells M 5)) := fun W => by
    have h := run_make (P := Tryz.prog) W 118 5 i0 (.int .u8 0) Tryz.underlying118 hi hz0 .i64 .i64 ((1 : Nat) : Int) ((1 : Nat) : Int) (by omega) (by omega) (by rw [hz2]; omega) (by omega)
    rw [← hM] at h
    simpa using h
  obtain ⟨v0, hv0⟩ : ∃ v0, M = #[v0] := by
    match M, hMs with
    | ⟨[v0]⟩, _ => exact ⟨v0, rfl⟩
  subst hv0
  clear hM hMs
  go_wp2
  clear hmk
  go_loopw [21] (fun i wr => ∃ (j : Nat) (v0 : Value), j ≤ 1 ∧ i = .int .i64 j ∧ (1 ≤ j → v0 = .int .u8 (((UInt8.ofNat (n)).toNat : Nat) : Int)) ∧ wr.heap[w1.heap.size]? = some (.cells #[v0] 5 (0, 0)) ∧ Below w1.heap.size w1 wr) (fun i _ => 1 - (intOf i).toNat)
  case atStart => exact ⟨0, v0, by omega, rfl, fun h => absurd h (by omega), heap_new _ _, (Below.refl _ _).alloc (Nat.le_refl _) _⟩
  case round =>
    obtain ⟨j, v0, hj, rfl, hv0, hh, hbl⟩ := hrel
    rcases (show j = 0 ∨ j = 1 by omega) with rfl | rfl
    · obtain ⟨hc, hf⟩ := cells_at (j := 0) hh rfl
      have hbs := Hid.mk (cells_put (j := 0) hh (.int .u8 (((UInt8.ofNat (n)).toNat : Nat) : Int)))
      have hwr := wrapu8 ((n : Int)) (n) (by omega)
      go_wp2
      exact ⟨⟨1, (.int .u8 (((UInt8.ofNat (n)).toNat : Nat) : Int)), by omega, rfl, fun _ => rfl, hbs.out, hbl.setCell (p := ⟨w1.heap.size, 0, none⟩) (Nat.le_refl _) _⟩, by simp [intOf]⟩
    · obtain rfl := hv0 (by omega)
      have hcv := run_convert_bytes_back (P := Tryz.prog) wr 118 9 5 ⟨w1.heap.size, 0, none⟩ 1 [UInt8.ofNat (n)] Tryz.underlying118 Tryz.underlying5 Tryz.underlying9 (fun j hj => by
        simp only [List.length_cons, List.length_nil] at hj
        rw [add_at]
        rcases (show j = 0 by omega) with rfl
        all_goals exact (cells_at hh rfl).1)
      simp only [List.length_cons, List.length_nil, Nat.zero_add, Nat.reduceAdd] at hcv
      clear hv0
      go_wp2
      go_ret
      exact ⟨by rw [HBB.out]; rfl, hbl⟩

theorem bytes1_in (n : Int) (w : World) : Calls Tryz.prog 46 #[.int .i64 n, .int .i64 1] w fun e w' => BytPost n 1 w e w' := by
  by_cases h0 : 0 ≤ n
  · by_cases h1 : n < 256
    · obtain ⟨m, rfl⟩ : ∃ m : Nat, n = m := ⟨n.toNat, by omega⟩
      refine (bytes1_yes m (by omega) w).mono ?_
      rintro e w' ⟨rfl, hb⟩
      refine ⟨?_, hb⟩
      rw [if_pos ⟨h0, by omega⟩]
      rfl
    · have hsh : ¬ n / 256 = 0 := by omega
      have hsb : (n / 256 == 0) = false := by simpa using hsh
      go_enter Tryz.func46, Tryz.ntmps46
      go_wp2_with fail
      refine (must_no _).mono ?_
      rintro e w1 ⟨rfl, rfl⟩
      go_wp2
      refine ⟨rfl, ?_, Below.refl _ _⟩
      rw [if_neg (by omega)]
  · go_enter Tryz.func46, Tryz.ntmps46
    go_wp2_with fail
    refine (must_no _).mono ?_
    rintro e w1 ⟨rfl, rfl⟩
    go_wp2
    refine ⟨rfl, ?_, Below.refl _ _⟩
    rw [if_neg (by omega)]

set_option maxRecDepth 100000 in
set_option maxHeartbeats 2000000 in
theorem bytes2_yes (n : Nat) (hn : n < 65536) (w : World) :
    Calls Tryz.prog 46 #[.int .i64 (n : Int), .int .i64 2] w fun e w' => e = .returned (.string ⟨(bytesB n 2).toArray⟩) ∧ Below w.heap.size w w' := by
  obtain ⟨i0, hi, hz0, hz1, hz2⟩ := info_parts info5
  have hsh : (n : Int) / 65536 = 0 := by omega
  have HBB : Hid ((⟨(bytesB n 2).toArray⟩ : ByteArray) = ⟨([UInt8.ofNat (n / 256), UInt8.ofNat (n)] : List UInt8).toArray⟩) := by
    rw [Hid]
    simp [bytesB, List.range_succ]
  go_enter Tryz.func46, Tryz.ntmps46
  go_wp2_with fail
  refine (must_yes _).mono ?_
  rintro e w1 ⟨rfl, rfl⟩
  obtain ⟨M, hM⟩ : ∃ M, M = madeCells (Value.int .u8 0).cells (((2 : Nat) : Int).toNat * i0.size) := ⟨_, rfl⟩
  have hMs : M.size = 2 := by rw [hM, size_madeCells, hz1]; simp
  have hmk : ∀ W : World, (Instr.makeSlice 118 (.int .i64 2) (.int .i64 2)).run Tryz.prog W = .ok (.slice (some ⟨W.heap.size, 0, none⟩) 2 2) (W.alloc (.cells M 5)) := fun W => by
    have h := run_make (P := Tryz.prog) W 118 5 i0 (.int .u8 0) Tryz.underlying118 hi hz0 .i64 .i64 ((2 : Nat) : Int) ((2 : Nat) : Int) (by omega) (by omega) (by rw [hz2]; omega) (by omega)
    rw [← hM] at h
    simpa using h
  obtain ⟨v0, v1, hv0⟩ : ∃ v0 v1, M = #[v0, v1] := by
    match M, hMs with
    | ⟨[v0, v1]⟩, _ => exact ⟨v0, v1, rfl⟩
  subst hv0
  clear hM hMs
  go_wp2
  clear hmk
  go_loopw [21] (fun i wr => ∃ (j : Nat) (v0 v1 : Value), j ≤ 2 ∧ i = .int .i64 j ∧ (1 ≤ j → v0 = .int .u8 (((UInt8.ofNat (n / 256)).toNat : Nat) : Int)) ∧ (2 ≤ j → v1 = .int .u8 (((UInt8.ofNat (n)).toNat : Nat) : Int)) ∧ wr.heap[w1.heap.size]? = some (.cells #[v0, v1] 5 (0, 0)) ∧ Below w1.heap.size w1 wr) (fun i _ => 2 - (intOf i).toNat)
  case atStart => exact ⟨0, v0, v1, by omega, rfl, fun h => absurd h (by omega), fun h => absurd h (by omega), heap_new _ _, (Below.refl _ _).alloc (Nat.le_refl _) _⟩
  case round =>
    obtain ⟨j, v0, v1, hj, rfl, hv0, hv1, hh, hbl⟩ := hrel
    rcases (show j = 0 ∨ j = 1 ∨ j = 2 by omega) with rfl | rfl | rfl
    · obtain ⟨hc, hf⟩ := cells_at (j := 0) hh rfl
      have hbs := Hid.mk (cells_put (j := 0) hh (.int .u8 (((UInt8.ofNat (n / 256)).toNat : Nat) : Int)))
      have hwr := wrapu8 ((n : Int) / 256) (n / 256) (by omega)
      go_wp2
      exact ⟨⟨1, (.int .u8 (((UInt8.ofNat (n / 256)).toNat : Nat) : Int)), v1, by omega, rfl, fun _ => rfl, fun h => absurd h (by omega), hbs.out, hbl.setCell (p := ⟨w1.heap.size, 0, none⟩) (Nat.le_refl _) _⟩, by simp [intOf]⟩
    · obtain ⟨hc, hf⟩ := cells_at (j := 1) hh rfl
      have hbs := Hid.mk (cells_put (j := 1) hh (.int .u8 (((UInt8.ofNat (n)).toNat : Nat) : Int)))
      have hwr := wrapu8 ((n : Int)) (n) (by omega)
      go_wp2
      exact ⟨⟨2, v0, (.int .u8 (((UInt8.ofNat (n)).toNat : Nat) : Int)), by omega, rfl, fun _ => hv0 (by omega), fun _ => rfl, hbs.out, hbl.setCell (p := ⟨w1.heap.size, 1, none⟩) (Nat.le_refl _) _⟩, by simp [intOf]⟩
    · obtain rfl := hv0 (by omega)
      obtain rfl := hv1 (by omega)
      have hcv := run_convert_bytes_back (P := Tryz.prog) wr 118 9 5 ⟨w1.heap.size, 0, none⟩ 2 [UInt8.ofNat (n / 256), UInt8.ofNat (n)] Tryz.underlying118 Tryz.underlying5 Tryz.underlying9 (fun j hj => by
        simp only [List.length_cons, List.length_nil] at hj
        rw [add_at]
        rcases (show j = 0 ∨ j = 1 by omega) with rfl | rfl
        all_goals exact (cells_at hh rfl).1)
      simp only [List.length_cons, List.length_nil, Nat.zero_add, Nat.reduceAdd] at hcv
      clear hv0 hv1
      go_wp2
      go_ret
      exact ⟨by rw [HBB.out]; rfl, hbl⟩

theorem bytes2_in (n : Int) (w : World) : Calls Tryz.prog 46 #[.int .i64 n, .int .i64 2] w fun e w' => BytPost n 2 w e w' := by
  by_cases h0 : 0 ≤ n
  · by_cases h1 : n < 65536
    · obtain ⟨m, rfl⟩ : ∃ m : Nat, n = m := ⟨n.toNat, by omega⟩
      refine (bytes2_yes m (by omega) w).mono ?_
      rintro e w' ⟨rfl, hb⟩
      refine ⟨?_, hb⟩
      rw [if_pos ⟨h0, by omega⟩]
      rfl
    · have hsh : ¬ n / 65536 = 0 := by omega
      have hsb : (n / 65536 == 0) = false := by simpa using hsh
      go_enter Tryz.func46, Tryz.ntmps46
      go_wp2_with fail
      refine (must_no _).mono ?_
      rintro e w1 ⟨rfl, rfl⟩
      go_wp2
      refine ⟨rfl, ?_, Below.refl _ _⟩
      rw [if_neg (by omega)]
  · go_enter Tryz.func46, Tryz.ntmps46
    go_wp2_with fail
    refine (must_no _).mono ?_
    rintro e w1 ⟨rfl, rfl⟩
    go_wp2
    refine ⟨rfl, ?_, Below.refl _ _⟩
    rw [if_neg (by omega)]

set_option maxRecDepth 100000 in
set_option maxHeartbeats 2000000 in
theorem bytes4_yes (n : Nat) (hn : n < 4294967296) (w : World) :
    Calls Tryz.prog 46 #[.int .i64 (n : Int), .int .i64 4] w fun e w' => e = .returned (.string ⟨(bytesB n 4).toArray⟩) ∧ Below w.heap.size w w' := by
  obtain ⟨i0, hi, hz0, hz1, hz2⟩ := info_parts info5
  have hsh : (n : Int) / 4294967296 = 0 := by omega
  have HBB : Hid ((⟨(bytesB n 4).toArray⟩ : ByteArray) = ⟨([UInt8.ofNat (n / 16777216), UInt8.ofNat (n / 65536), UInt8.ofNat (n / 256), UInt8.ofNat (n)] : List UInt8).toArray⟩) := by
    rw [Hid]
    simp [bytesB, List.range_succ]
  go_enter Tryz.func46, Tryz.ntmps46
  go_wp2_with fail
  refine (must_yes _).mono ?_
  rintro e w1 ⟨rfl, rfl⟩
  obtain ⟨M, hM⟩ : ∃ M, M = madeCells (Value.int .u8 0).cells (((4 : Nat) : Int).toNat * i0.size) := ⟨_, rfl⟩
  have hMs : M.size = 4 := by rw [hM, size_madeCells, hz1]; simp
  have hmk : ∀ W : World, (Instr.makeSlice 118 (.int .i64 4) (.int .i64 4)).run Tryz.prog W = .ok (.slice (some ⟨W.heap.size, 0, none⟩) 4 4) (W.alloc (.cells M 5)) := fun W => by
    have h := run_make (P := Tryz.prog) W 118 5 i0 (.int .u8 0) Tryz.underlying118 hi hz0 .i64 .i64 ((4 : Nat) : Int) ((4 : Nat) : Int) (by omega) (by omega) (by rw [hz2]; omega) (by omega)
    rw [← hM] at h
    simpa using h
  obtain ⟨v0, v1, v2, v3, hv0⟩ : ∃ v0 v1 v2 v3, M = #[v0, v1, v2, v3] := by
    match M, hMs with
    | ⟨[v0, v1, v2, v3]⟩, _ => exact ⟨v0, v1, v2, v3, rfl⟩
  subst hv0
  clear hM hMs
  go_wp2
  clear hmk
  go_loopw [21] (fun i wr => ∃ (j : Nat) (v0 v1 v2 v3 : Value), j ≤ 4 ∧ i = .int .i64 j ∧ (1 ≤ j → v0 = .int .u8 (((UInt8.ofNat (n / 16777216)).toNat : Nat) : Int)) ∧ (2 ≤ j → v1 = .int .u8 (((UInt8.ofNat (n / 65536)).toNat : Nat) : Int)) ∧ (3 ≤ j → v2 = .int .u8 (((UInt8.ofNat (n / 256)).toNat : Nat) : Int)) ∧ (4 ≤ j → v3 = .int .u8 (((UInt8.ofNat (n)).toNat : Nat) : Int)) ∧ wr.heap[w1.heap.size]? = some (.cells #[v0, v1, v2, v3] 5 (0, 0)) ∧ Below w1.heap.size w1 wr) (fun i _ => 4 - (intOf i).toNat)
  case atStart => exact ⟨0, v0, v1, v2, v3, by omega, rfl, fun h => absurd h (by omega), fun h => absurd h (by omega), fun h => absurd h (by omega), fun h => absurd h (by omega), heap_new _ _, (Below.refl _ _).alloc (Nat.le_refl _) _⟩
  case round =>
    obtain ⟨j, v0, v1, v2, v3, hj, rfl, hv0, hv1, hv2, hv3, hh, hbl⟩ := hrel
    rcases (show j = 0 ∨ j = 1 ∨ j = 2 ∨ j = 3 ∨ j = 4 by omega) with rfl | rfl | rfl | rfl | rfl
    · obtain ⟨hc, hf⟩ := cells_at (j := 0) hh rfl
      have hbs := Hid.mk (cells_put (j := 0) hh (.int .u8 (((UInt8.ofNat (n / 16777216)).toNat : Nat) : Int)))
      have hwr := wrapu8 ((n : Int) / 16777216) (n / 16777216) (by omega)
      go_wp2
      exact ⟨⟨1, (.int .u8 (((UInt8.ofNat (n / 16777216)).toNat : Nat) : Int)), v1, v2, v3, by omega, rfl, fun _ => rfl, fun h => absurd h (by omega), fun h => absurd h (by omega), fun h => absurd h (by omega), hbs.out, hbl.setCell (p := ⟨w1.heap.size, 0, none⟩) (Nat.le_refl _) _⟩, by simp [intOf]⟩
    · obtain ⟨hc, hf⟩ := cells_at (j := 1) hh rfl
      have hbs := Hid.mk (cells_put (j := 1) hh (.int .u8 (((UInt8.ofNat (n / 65536)).toNat : Nat) : Int)))
      have hwr := wrapu8 ((n : Int) / 65536) (n / 65536) (by omega)
      go_wp2
      exact ⟨⟨2, v0, (.int .u8 (((UInt8.ofNat (n / 65536)).toNat : Nat) : Int)), v2, v3, by omega, rfl, fun _ => hv0 (by omega), fun _ => rfl, fun h => absurd h (by omega), fun h => absurd h (by omega), hbs.out, hbl.setCell (p := ⟨w1.heap.size, 1, none⟩) (Nat.le_refl _) _⟩, by simp [intOf]⟩
    · obtain ⟨hc, hf⟩ := cells_at (j := 2) hh rfl
      have hbs := Hid.mk (cells_put (j := 2) hh (.int .u8 (((UInt8.ofNat (n / 256)).toNat : Nat) : Int)))
      have hwr := wrapu8 ((n : Int) / 256) (n / 256) (by omega)
      go_wp2
      exact ⟨⟨3, v0, v1, (.int .u8 (((UInt8.ofNat (n / 256)).toNat : Nat) : Int)), v3, by omega, rfl, fun _ => hv0 (by omega), fun _ => hv1 (by omega), fun _ => rfl, fun h => absurd h (by omega), hbs.out, hbl.setCell (p := ⟨w1.heap.size, 2, none⟩) (Nat.le_refl _) _⟩, by simp [intOf]⟩
    · obtain ⟨hc, hf⟩ := cells_at (j := 3) hh rfl
      have hbs := Hid.mk (cells_put (j := 3) hh (.int .u8 (((UInt8.ofNat (n)).toNat : Nat) : Int)))
      have hwr := wrapu8 ((n : Int)) (n) (by omega)
      go_wp2
      exact ⟨⟨4, v0, v1, v2, (.int .u8 (((UInt8.ofNat (n)).toNat : Nat) : Int)), by omega, rfl, fun _ => hv0 (by omega), fun _ => hv1 (by omega), fun _ => hv2 (by omega), fun _ => rfl, hbs.out, hbl.setCell (p := ⟨w1.heap.size, 3, none⟩) (Nat.le_refl _) _⟩, by simp [intOf]⟩
    · obtain rfl := hv0 (by omega)
      obtain rfl := hv1 (by omega)
      obtain rfl := hv2 (by omega)
      obtain rfl := hv3 (by omega)
      have hcv := run_convert_bytes_back (P := Tryz.prog) wr 118 9 5 ⟨w1.heap.size, 0, none⟩ 4 [UInt8.ofNat (n / 16777216), UInt8.ofNat (n / 65536), UInt8.ofNat (n / 256), UInt8.ofNat (n)] Tryz.underlying118 Tryz.underlying5 Tryz.underlying9 (fun j hj => by
        simp only [List.length_cons, List.length_nil] at hj
        rw [add_at]
        rcases (show j = 0 ∨ j = 1 ∨ j = 2 ∨ j = 3 by omega) with rfl | rfl | rfl | rfl
        all_goals exact (cells_at hh rfl).1)
      simp only [List.length_cons, List.length_nil, Nat.zero_add, Nat.reduceAdd] at hcv
      clear hv0 hv1 hv2 hv3
      go_wp2
      go_ret
      exact ⟨by rw [HBB.out]; rfl, hbl⟩

theorem bytes4_in (n : Int) (w : World) : Calls Tryz.prog 46 #[.int .i64 n, .int .i64 4] w fun e w' => BytPost n 4 w e w' := by
  by_cases h0 : 0 ≤ n
  · by_cases h1 : n < 4294967296
    · obtain ⟨m, rfl⟩ : ∃ m : Nat, n = m := ⟨n.toNat, by omega⟩
      refine (bytes4_yes m (by omega) w).mono ?_
      rintro e w' ⟨rfl, hb⟩
      refine ⟨?_, hb⟩
      rw [if_pos ⟨h0, by omega⟩]
      rfl
    · have hsh : ¬ n / 4294967296 = 0 := by omega
      have hsb : (n / 4294967296 == 0) = false := by simpa using hsh
      go_enter Tryz.func46, Tryz.ntmps46
      go_wp2_with fail
      refine (must_no _).mono ?_
      rintro e w1 ⟨rfl, rfl⟩
      go_wp2
      refine ⟨rfl, ?_, Below.refl _ _⟩
      rw [if_neg (by omega)]
  · go_enter Tryz.func46, Tryz.ntmps46
    go_wp2_with fail
    refine (must_no _).mono ?_
    rintro e w1 ⟨rfl, rfl⟩
    go_wp2
    refine ⟨rfl, ?_, Below.refl _ _⟩
    rw [if_neg (by omega)]

end Go.Proofs.YtdhcbaennpediaaGreatDoor

/- typeList.add: one type more. -/
namespace Go.Proofs.YtdhcbaennpediaaGreatDoor
set_option linter.unusedVariables false
open Go.RowKit

/-- the list in the making at block d: its bytes, where the bits of the last window begin, the last type. -/
def TL (W : World) (d : Nat) (L : List UInt8) (b : Nat) (last : Int) : Prop :=
  ∃ v, W.heap[d]? = some (.cells #[v, .int .i64 (b : Int), .int .i64 last] 124 (0, 0)) ∧ W.ownsRow (d + 1) 5 1 v L.length (Lib.byteCells L)

theorem newTypeList_in (w : World) : Calls Tryz.prog 73 #[] w fun e w' => e = .returned (boxV w.heap.size) ∧ TL w' w.heap.size [] 0 (-1) ∧ Below w.heap.size w w' := by
  go_enter Tryz.func73, Tryz.ntmps73
  go_wp2
  go_ret
  exact ⟨rfl, ⟨.slice none 0 0, heap_new _ _, World.ownsRow_nil ..⟩, (Below.refl _ _).alloc (Nat.le_refl _) _⟩

def slLen : Option Value → Nat
  | some (.slice _ n _) => n
  | _ => 0
theorem and255 (k : Nat) (hk : k ≤ 65535) : Go.bits BinOp.and IntKind.i64 (k : Int) 255 = ((k % 256 : Nat) : Int) := by
  have h1 : (BitVec.ofInt 64 (k : Int)).toNat = k := by
    rw [BitVec.ofInt_natCast, BitVec.toNat_ofNat]; exact Nat.mod_eq_of_lt (by omega)
  show IntKind.i64.wrap ((BitVec.ofInt 64 (k : Int) &&& BitVec.ofInt 64 (255 : Int)).toNat : Int) = _
  rw [BitVec.toNat_and, h1, show (BitVec.ofInt 64 (255 : Int)).toNat = 255 from rfl, show (255 : Nat) = 2 ^ 8 - 1 by decide, Nat.and_two_pow_sub_one_eq_mod k 8, IntKind.wrap_i64]
  omega

set_option maxRecDepth 10000 in
theorem add_no (W : World) (d : Nat) (L : List UInt8) (b : Nat) (last k : Int) (h : TL W d L b last) (hk : ¬ ((0 ≤ k ∧ k ≤ 65535) ∧ last < k)) :
    Calls Tryz.prog 74 #[boxV d, .int .i64 k] W fun e w' => e = .panicked mustV ∧ w' = W := by
  obtain ⟨v, hh, hrow⟩ := h
  obtain ⟨c2, _⟩ := cells_at (v := .int .i64 last) (j := 2) hh rfl
  by_cases h1 : 0 ≤ k ∧ k ≤ 65535
  · have hd : decide (0 ≤ k ∧ k ≤ 65535) = true := by simp [h1]
    have h2 : decide (last < k) = false := by
      rw [decide_eq_false_iff_not]
      exact fun e => hk ⟨h1, e⟩
    clear hk
    go_enter Tryz.func74, Tryz.ntmps74
    go_wp2_with fail
    refine (isType_in k _).mono ?_
    rintro e w1 ⟨rfl, rfl⟩
    rw [hd]
    go_wp2_with fail
    refine (must_no _).mono ?_
    rintro e w2 ⟨rfl, rfl⟩
    go_wp2
    exact ⟨rfl, rfl, rfl⟩
  · have hd : decide (0 ≤ k ∧ k ≤ 65535) = false := by simp; omega
    clear hk
    go_enter Tryz.func74, Tryz.ntmps74
    go_wp2_with fail
    refine (isType_in k _).mono ?_
    rintro e w1 ⟨rfl, rfl⟩
    rw [hd]
    go_wp2_with fail
    refine (must_no _).mono ?_
    rintro e w2 ⟨rfl, rfl⟩
    go_wp2
    exact ⟨rfl, rfl, rfl⟩

/-- what add makes of the bytes. -/
def addTail (L1 : List UInt8) (b1 k : Nat) : List UInt8 :=
  let L2 := L1 ++ List.replicate (b1 + k % 256 / 8 + 1 - L1.length) 0
  let L3 := L2.set (b1 + k % 256 / 8) (UInt8.ofNat ((L2.getD (b1 + k % 256 / 8) 0).toNat ||| 2 ^ (7 - k % 8)))
  L3.set (b1 - 1) (UInt8.ofNat (L3.length - b1))

theorem byte_cell {W : World} {base n c g : Nat} {l : List UInt8} (h : W.ownsRow base 5 1 (.slice (some ⟨g, 0, none⟩) n c) n (Lib.byteCells l)) (j : Nat) (hj : j < l.length) : W.cell? ⟨g, j, none⟩ = some (.int .u8 (l[j].toNat : Int)) := by
  have hn : l.length = n := by have := h.1; simpa [Lib.byteCells] using this
  rcases h.2 with ⟨_, h0⟩ | ⟨g', cap, cur, hv, _, hg, _, _, _, ht⟩
  · omega
  · cases hv
    have := Lib.cells_of_row (w := W) hg n j (.int .u8 (l[j].toNat : Int)) (by rw [Nat.mul_one] at ht; rw [ht]; simp [Lib.byteCells, hj])
    rwa [add_at] at this
theorem byteCells_set (l : List UInt8) (j : Nat) (b : UInt8) : (Lib.byteCells l).set j (.int .u8 (b.toNat : Int)) = Lib.byteCells (l.set j b) := by simp [Lib.byteCells, List.map_set]
theorem or_u8 (a c : Nat) (ha : a < 256) (hc : c < 256) : Go.bits BinOp.or IntKind.u8 (a : Int) (c : Int) = (((UInt8.ofNat (a ||| c)).toNat : Nat) : Int) := by
  have h1 : (BitVec.ofInt 8 (a : Int)).toNat = a := by
    rw [BitVec.ofInt_natCast, BitVec.toNat_ofNat]; exact Nat.mod_eq_of_lt (by omega)
  have h2 : (BitVec.ofInt 8 (c : Int)).toNat = c := by
    rw [BitVec.ofInt_natCast, BitVec.toNat_ofNat]; exact Nat.mod_eq_of_lt (by omega)
  show IntKind.u8.wrap ((BitVec.ofInt 8 (a : Int) ||| BitVec.ofInt 8 (c : Int)).toNat : Int) = _
  rw [BitVec.toNat_or, h1, h2, IntKind.wrap_u8, UInt8.toNat_ofNat']
  omega
theorem pow_lt8 (k : Nat) : 2 ^ (7 - k % 8) < 256 := Nat.lt_of_lt_of_le (Nat.pow_lt_pow_right (by omega) (by omega : 7 - k % 8 < 8)) (by decide)

set_option maxRecDepth 100000 in
set_option maxHeartbeats 2000000 in
theorem add_same (W : World) (d : Nat) (L : List UInt8) (b : Nat) (last : Int) (k : Nat) (h : TL W d L b last) (hk : k ≤ 65535) (hl : last < (k : Int)) (hL : L.length ≤ 10000) (hb1 : 1 ≤ b) (hb : b ≤ L.length) (hw : ((k / 256 : Nat) : Int) = last / 256) (hl0 : -1 ≤ last) :
    Calls Tryz.prog 74 #[boxV d, .int .i64 (k : Int)] W fun e w' => e = .returned (.tuple #[]) ∧ TL w' d (addTail L b k) b k ∧ Below d W w' := by
  obtain ⟨v, hh, hrow⟩ := h
  obtain ⟨i0, hi, hz0, hz1, hz2⟩ := info_parts info5
  have hmo : Tryz.prog.follows Departure.mixedOrders = true := by kernel_rfl
  have hd : decide (0 ≤ (k : Int) ∧ (k : Int) ≤ 65535) = true := by simp; omega
  obtain ⟨c2, _⟩ := cells_at (v := .int .i64 last) (j := 2) hh rfl
  obtain ⟨c1, _⟩ := cells_at (v := .int .i64 (b : Int)) (j := 1) hh rfl
  have hand := and255 k hk
  have hdl := box_lt hh
  obtain ⟨qv, cv, hqv⟩ := row_as hrow
  subst hqv
  obtain ⟨A, hA⟩ : ∃ A, A = b + k % 256 / 8 := ⟨_, rfl⟩
  have hwb : ((k : Int) / 256 != last / 256) = false := by rw [bne_eq_false_iff_eq]; omega
  clear hw
  have HAi : Hid ((b : Int) + (k : Int) % 256 / 8 = (A : Int)) := by rw [Hid]; omega
  have HA := Hid.mk hA
  have hA1 : A ≤ b + 31 := by omega
  have hA2 : b ≤ A := by omega
  clear hA
  go_enter Tryz.func74, Tryz.ntmps74
  go_wp2_with fail
  refine (isType_in k _).mono ?_
  rintro e w1 ⟨rfl, rfl⟩
  rw [hd]
  go_wp2_with fail
  refine (must_yes _).mono ?_
  rintro e w2 ⟨rfl, rfl⟩
  have HROW := Hid.mk hrow
  have HHH := Hid.mk hh
  clear hrow hh
  go_wp2
  rw [HAi.out]
  go_loopw [] (fun wr => ∃ n : Nat, L.length + n ≤ 10100 ∧ (n = 0 ∨ L.length + n ≤ A + 1) ∧ TL wr d (L ++ List.replicate n 0) b last ∧ Below d w2 wr ∧ d < wr.heap.size) (fun wr => A + 1 - slLen (wr.cell? ⟨d, 0, none⟩))
  case atStart => exact ⟨0, by omega, .inl rfl, ⟨_, HHH.out, by simpa using HROW.out⟩, Below.refl _ _, hdl⟩
  case round =>
    obtain ⟨n, hn, hn2, ⟨v, hh, hrow⟩, hbl, hdr⟩ := hrel
    obtain ⟨qw, cw, hqw⟩ := row_as hrow
    subst hqw
    have hlen : (L ++ List.replicate n 0).length = L.length + n := by simp
    rw [hlen] at hh hrow
    obtain ⟨c0, f0⟩ := cells_at (v := .slice qw (L.length + n) cw) (j := 0) hh rfl
    by_cases hlt : L.length + n ≤ A
    · have HL : Hid (∀ (G : Prop) (v1 : Value) (w3 : World), w3.ownsRow (d + 1) 5 1 v1 (L.length + n + 1) (Lib.byteCells (L ++ List.replicate n 0) ++ [.int .u8 0]) → (wr.alloc (.cells #[.int .u8 0] 5)).grownBy w3 (Value.slice qw (L.length + n) cw).ownBlock →
          (∀ q c, v1 = .slice q (L.length + n + 1) c → w3.heap[d]? = some (.cells #[.slice qw (L.length + n) cw, .int .i64 (b : Int), .int .i64 last] 124 (0, 0)) → w3.cell? ⟨d, 0, none⟩ = some (.slice qw (L.length + n) cw) → w3.frozen? ⟨d, 0, none⟩ = false → Below d w2 w3 → G) → G) := by
        intro G v1 w3 ho hg hG
        obtain ⟨q, c, hv⟩ := row_as ho
        have hne : some d ≠ (Value.slice qw (L.length + n) cw).ownBlock := fun e => by have := rowBaseB hrow d e.symm; omega
        have h3 := (hg.block d (by simp; omega) hne).trans ((alloc_old _ _ _ hdr).trans hh)
        obtain ⟨e1, e2⟩ := cells_at (v := .slice qw (L.length + n) cw) (j := 0) h3 rfl
        exact hG q c hv h3 e1 e2 ((hbl.alloc (by omega) _).grown hg (by simp; omega) (fun k hk => by have := rowBaseB hrow k hk; omega))
      go_wp2_with (at_builtin; refine wpList_append_own _ rfl _ _ 118 rfl (d + 1) 5 i0 (.int .u8 0) 1 1 Tryz.underlying118 hi hz0 hz1 hz2 rfl (by decide) _ _ _ rfl (row_alloc hrow _) ⟨wr.heap.size, 0, none⟩ 1 1 [.int .u8 0] rfl rfl (cell_one_new _ _ _) (by simp [Value.oneCell']) (by unfold maxLen; omega) (by omega) (by simp; omega) ?_; intro v1 w3 hown3 hgrow3 _; refine HL.out _ v1 w3 hown3 hgrow3 ?_; intro q3 cc3 hv3 hh3 c03 f03 hb3; subst hv3)
      have HST := Hid.mk (cells_put (j := 0) hh3 (.slice q3 (L.length + n + 1) cc3))
      have HSZ : Hid (d < w3.heap.size) := Nat.lt_of_lt_of_le hdl hb3.size
      have HRR : Hid (w3.ownsRow (d + 1) 5 1 (.slice q3 (L.length + n + 1) cc3) (L ++ List.replicate (n + 1) 0).length (Lib.byteCells (L ++ List.replicate (n + 1) 0))) := by
        have e1 : L ++ List.replicate (n + 1) (0 : UInt8) = (L ++ List.replicate n 0) ++ [0] := by rw [List.replicate_succ', List.append_assoc]
        have e2 : ((L ++ List.replicate n (0 : UInt8)) ++ [0]).length = L.length + n + 1 := by simp; omega
        rw [Hid, e1, byteCells_snoc, e2]
        exact hown3
      have HM1 : Hid (slLen (wr.cell? ⟨d, 0, none⟩) = L.length + n) := by rw [Hid, c0]; rfl
      clear hown3 hgrow3 HL hrow
      have HLT : Hid (A + 1 - slLen ((w3.setCell ⟨d, 0, none⟩ (.slice q3 (L.length + n + 1) cc3)).cell? ⟨d, 0, none⟩) < A + 1 - slLen (wr.cell? ⟨d, 0, none⟩)) := by
        rw [Hid, HM1.out, (cells_at (v := .slice q3 (L.length + n + 1) cc3) (j := 0) HST.out rfl).1]
        simp only [slLen]
        omega
      have hrelN : ∃ n' : Nat, L.length + n' ≤ 10100 ∧ (n' = 0 ∨ L.length + n' ≤ A + 1) ∧ TL (w3.setCell ⟨d, 0, none⟩ (.slice q3 (L.length + n + 1) cc3)) d (L ++ List.replicate n' 0) b last ∧ Below d w2 (w3.setCell ⟨d, 0, none⟩ (.slice q3 (L.length + n + 1) cc3)) ∧ d < (w3.setCell ⟨d, 0, none⟩ (.slice q3 (L.length + n + 1) cc3)).heap.size :=
        ⟨n + 1, by omega, .inr (by omega), ⟨_, HST.out, ownsRow_setCell_below HRR.out (a := ⟨d, 0, none⟩) (Nat.lt_succ_self d) _⟩, hb3.setCell (p := ⟨d, 0, none⟩) (Nat.le_refl _) _, by simp [World.setCell]; exact HSZ.out⟩
      go_wp2
      go_roundw
      case rel => exact hrelN
      case measure => exact HLT.out
    · have hn3 : n = A + 1 - L.length := by omega
      have hAl : A < (L ++ List.replicate n 0).length := by rw [hlen]; omega
      obtain ⟨g, cap, hgc⟩ := row_form hrow (by omega)
      cases hgc
      have HTL : Hid (addTail L b k = (((L ++ List.replicate n 0).set A (UInt8.ofNat ((L ++ List.replicate n (0 : UInt8))[A].toNat ||| 2 ^ (7 - k % 8)))).set (b - 1) (UInt8.ofNat (L.length + n - b)))) := by
        rw [Hid, addTail, ← HA.out, ← hn3, List.length_set, hlen, List.getD_eq_getElem?_getD, List.getElem?_eq_getElem hAl]
        rfl
      have hAc := byte_cell hrow A hAl
      obtain ⟨hAf, hgl, hgb⟩ := row_frozen (j := A) hrow (by omega)
      have hx := (L ++ List.replicate n (0 : UInt8))[A].toNat_lt
      have hst1 := row_store (j := A) hrow (by omega) (.int .u8 (((UInt8.ofNat ((L ++ List.replicate n (0 : UInt8))[A].toNat ||| 2 ^ (7 - k % 8))).toNat : Nat) : Int))
      rw [byteCells_set] at hst1
      have hor := or_u8 (L ++ List.replicate n (0 : UInt8))[A].toNat (2 ^ (7 - k % 8)) (by omega) (pow_lt8 k)
      have hAi0 : (0 : Int) ≤ (A : Int) := by omega
      have hAi1 : (A : Int) < ((L.length + n : Nat) : Int) := by omega
      have hdg : d ≠ g := by omega
      have hor3 : Go.bits BinOp.or IntKind.u8 ((L ++ List.replicate n (0 : UInt8))[A].toNat : Int) (2 ^ (7 - k % 8) % 256) = (((UInt8.ofNat ((L ++ List.replicate n (0 : UInt8))[A].toNat ||| 2 ^ (7 - k % 8))).toNat : Nat) : Int) := by
        have e : ((2 : Int) ^ (7 - k % 8) % 256) = ((2 ^ (7 - k % 8) : Nat) : Int) := by
          have hpw := pow_lt8 k
          have e2 : (2 : Int) ^ (7 - k % 8) = ((2 ^ (7 - k % 8) : Nat) : Int) := by push_cast; rfl
          rw [e2]
          generalize 2 ^ (7 - k % 8) = q at hpw
          omega
        rw [e]
        exact hor
      have hr0 : (0 : Int) ≤ 7 - (k : Int).tmod 8 := by rw [Int.tmod_eq_emod_of_nonneg (by omega)]; omega
      clear hlen hor
      generalize (L ++ List.replicate n (0 : UInt8))[A].toNat = x at hAc hx hst1 hor3 HTL
      generalize L ++ List.replicate n (0 : UInt8) = L2 at hst1 hrow hAl HTL
      have HST1 := Hid.mk hst1
      have HRW := Hid.mk hrow
      clear hst1 hrow hn2 hn3 hlt
      go_wp2
      have HOR := Hid.mk hor3
      clear hor3
      go_region
      rw [HOR.out]
      obtain ⟨y, hy⟩ : ∃ y, (UInt8.ofNat (x ||| 2 ^ (7 - k % 8))) = y := ⟨_, rfl⟩
      rw [hy] at HST1 HTL ⊢
      obtain ⟨W5, hW5⟩ : ∃ W5, W5 = (wr.setCell ⟨g, A, none⟩ (.int .u8 (y.toNat : Int))).drew := ⟨_, rfl⟩
      rw [← hW5]
      have hh5 : W5.heap[d]? = some (.cells #[.slice (some ⟨g, 0, none⟩) (L.length + n) cw, .int .i64 (b : Int), .int .i64 last] 124 (0, 0)) := by
        rw [hW5]
        exact (Below.heap_setCell wr ⟨g, A, none⟩ _ d hdg).trans hh
      have hrow5 : W5.ownsRow (d + 1) 5 1 (.slice (some ⟨g, 0, none⟩) (L.length + n) cw) (L.length + n) (Lib.byteCells (L2.set A y)) := by rw [hW5]; exact HST1.out
      have hbl5 : Below d w2 W5 := by rw [hW5]; exact (hbl.setCell (p := ⟨g, A, none⟩) (by simp; omega) _).drew
      obtain ⟨e0, _⟩ := cells_at (v := .slice (some ⟨g, 0, none⟩) (L.length + n) cw) (j := 0) hh5 rfl
      obtain ⟨e1, _⟩ := cells_at (v := .int .i64 (b : Int)) (j := 1) hh5 rfl
      obtain ⟨e2, f2⟩ := cells_at (v := .int .i64 last) (j := 2) hh5 rfl
      have hL2 : (L2.set A y).length = L.length + n := by
        have := hrow5.1
        simpa [Lib.byteCells] using this
      have hbc := byte_cell hrow5 (b - 1) (by omega)
      obtain ⟨hbf, _, _⟩ := row_frozen (j := b - 1) hrow5 (by omega)
      have hst2 := row_store (j := b - 1) hrow5 (by omega) (.int .u8 (((UInt8.ofNat (L.length + n - b)).toNat : Nat) : Int))
      rw [byteCells_set] at hst2
      have HST2 := Hid.mk hst2
      have HH5 := Hid.mk hh5
      have HL2 := Hid.mk hL2
      have hbi : ((b : Int) - 1) = ((b - 1 : Nat) : Int) := by omega
      have hbi0 : (0 : Int) ≤ (b : Int) - 1 := by omega
      have hbi1 : (b : Int) - 1 < ((L.length + n : Nat) : Int) := by omega
      have hcvb : IntKind.u8.wrap (((L.length + n : Nat) : Int) - (b : Int)) = (((UInt8.ofNat (L.length + n - b)).toNat : Nat) : Int) := wrapu8 _ _ (by omega)
      generalize (L2.set A y)[b - 1]'(by omega) = z at hbc
      clear hst2 hrow5 hh5 hL2 HST1 HRW HOR hW5 hh hAc hAf c0 f0
      have HVL : Hid (((L.length : Int) + (n : Int) - (b : Int)) % 256 = (((UInt8.ofNat (L.length + n - b)).toNat : Nat) : Int)) := by
        rw [Hid, UInt8.toNat_ofNat']
        omega
      go_wp2
      go_region
      rw [HVL.out]
      obtain ⟨W6, hW6⟩ : ∃ W6, W6 = (W5.setCell ⟨g, b - 1, none⟩ (.int .u8 (((UInt8.ofNat (L.length + n - b)).toNat : Nat) : Int))).drew := ⟨_, rfl⟩
      rw [← hW6]
      have hh6 : W6.heap[d]? = some (.cells #[.slice (some ⟨g, 0, none⟩) (L.length + n) cw, .int .i64 (b : Int), .int .i64 last] 124 (0, 0)) := by
        rw [hW6]
        exact (Below.heap_setCell W5 ⟨g, b - 1, none⟩ _ d hdg).trans HH5.out
      have hrow6 : W6.ownsRow (d + 1) 5 1 (.slice (some ⟨g, 0, none⟩) (L.length + n) cw) (addTail L b k).length (Lib.byteCells (addTail L b k)) := by
        rw [HTL.out, List.length_set, HL2.out, hW6]
        exact HST2.out
      have hbl6 : Below d w2 W6 := by rw [hW6]; exact (hbl5.setCell (p := ⟨g, b - 1, none⟩) (by simp; omega) _).drew
      have hlt6 : (addTail L b k).length = L.length + n := by rw [HTL.out, List.length_set, HL2.out]
      obtain ⟨c62, f62⟩ := cells_at (v := .int .i64 last) (j := 2) hh6 rfl
      have HP6 := Hid.mk (cells_put (j := 2) hh6 (.int .i64 (k : Int)))
      have HR6 := Hid.mk hrow6
      have HT6 := Hid.mk hlt6
      clear hrow6 hh6 hW6 hlt6 HTL e0 e1 e2 f2 hbc hbf
      go_wp2
      refine bodyPost_end (results_none rfl _ _ _) rfl ⟨rfl, ⟨_, HP6.out, ?_⟩, hbl6.setCell (p := ⟨d, 2, none⟩) (Nat.le_refl _) _⟩
      exact ownsRow_setCell_below HR6.out (a := ⟨d, 2, none⟩) (Nat.lt_succ_self d) _
end Go.Proofs.YtdhcbaennpediaaGreatDoor

/- typeList.add: one type more, in a new window. -/
namespace Go.Proofs.YtdhcbaennpediaaGreatDoor
set_option linter.unusedVariables false
open Go.RowKit

set_option maxRecDepth 100000 in
set_option maxHeartbeats 2000000 in
theorem add_new (W : World) (d : Nat) (L : List UInt8) (b : Nat) (last : Int) (k : Nat) (h : TL W d L b last) (hk : k ≤ 65535) (hl : last < (k : Int)) (hL0 : L.length ≤ 9900) (hw : ¬ ((k / 256 : Nat) : Int) = last / 256) (hl0 : -1 ≤ last) :
    Calls Tryz.prog 74 #[boxV d, .int .i64 (k : Int)] W fun e w' => e = .returned (.tuple #[]) ∧ TL w' d (addTail (L ++ [UInt8.ofNat (k / 256), 0]) (L.length + 2) k) (L.length + 2) k ∧ Below d W w' := by
  obtain ⟨L1, hL1⟩ : ∃ L1, L ++ [UInt8.ofNat (k / 256), 0] = L1 := ⟨_, rfl⟩
  obtain ⟨b1, hb1e⟩ : ∃ b1, L.length + 2 = b1 := ⟨_, rfl⟩
  have hL1l : L1.length = b1 := by rw [← hL1, ← hb1e]; simp
  have hL : L1.length ≤ 10000 := by omega
  have hb1 : 1 ≤ b1 := by omega
  have hb : b1 ≤ L1.length := by omega
  rw [hL1, hb1e]
  have HL1 := Hid.mk hL1
  have HB1E := Hid.mk hb1e
  have HL1L := Hid.mk hL1l
  obtain ⟨A, hA⟩ : ∃ A, A = b1 + k % 256 / 8 := ⟨_, rfl⟩
  have HAi : Hid ((b1 : Int) + (k : Int) % 256 / 8 = (A : Int)) := by rw [Hid]; omega
  have HA := Hid.mk hA
  have hA1 : A ≤ b1 + 31 := by omega
  have hA2 : b1 ≤ A := by omega
  have HCA : Hid ((L.length : Int) + 2 = (b1 : Int)) := by rw [Hid]; omega
  clear hA hL1 hb1e hL1l
  obtain ⟨v, hh, hrow⟩ := h
  obtain ⟨i0, hi, hz0, hz1, hz2⟩ := info_parts info5
  have hmo : Tryz.prog.follows Departure.mixedOrders = true := by kernel_rfl
  have hd : decide (0 ≤ (k : Int) ∧ (k : Int) ≤ 65535) = true := by simp; omega
  obtain ⟨c2, _⟩ := cells_at (v := .int .i64 last) (j := 2) hh rfl
  have hand := and255 k hk
  have hdl := box_lt hh
  obtain ⟨qv, cv, hqv⟩ := row_as hrow
  subst hqv
  obtain ⟨c0, f0⟩ := cells_at (v := .slice qv L.length cv) (j := 0) hh rfl
  have hwb : ((k : Int) / 256 != last / 256) = true := by rw [bne_iff_ne]; omega
  have hu8 : IntKind.u8.wrap ((k : Int) / 256) = (((UInt8.ofNat (k / 256)).toNat : Nat) : Int) := wrapu8 _ _ (by omega)
  clear hw
  have HL : Hid (∀ (G : Prop) (v1 : Value) (w3 : World) (o : Obj), w3.ownsRow (d + 1) 5 1 v1 (L.length + 2) (Lib.byteCells L ++ [.int .u8 (((UInt8.ofNat (k / 256)).toNat : Nat) : Int), .int .u8 0]) → (W.alloc o).grownBy w3 (Value.slice qv L.length cv).ownBlock →
      (∀ q c, v1 = .slice q (L.length + 2) c → w3.cell? ⟨d, 0, none⟩ = some (.slice qv L.length cv) → w3.frozen? ⟨d, 0, none⟩ = false → Below d W w3 →
        (∀ u, (w3.setCell ⟨d, 0, none⟩ u).cell? ⟨d, 0, none⟩ = some u) → (∀ u, (w3.setCell ⟨d, 0, none⟩ u).cell? ⟨d, 1, none⟩ = some (.int .i64 (b : Int))) → (∀ u, (w3.setCell ⟨d, 0, none⟩ u).frozen? ⟨d, 1, none⟩ = false) →
        (∀ u x, ((w3.setCell ⟨d, 0, none⟩ u).setCell ⟨d, 1, none⟩ x).cell? ⟨d, 1, none⟩ = some x) → (∀ u x, ((w3.setCell ⟨d, 0, none⟩ u).setCell ⟨d, 1, none⟩ x).heap[d]? = some (.cells #[u, x, .int .i64 last] 124 (0, 0))) → G) → G) := by
    intro G v1 w3 o ho hg hG
    obtain ⟨q, c, hv⟩ := row_as ho
    have hne : some d ≠ (Value.slice qv L.length cv).ownBlock := fun e => by have := rowBaseB hrow d e.symm; omega
    have h3 := (hg.block d (by simp; omega) hne).trans ((alloc_old _ _ _ hdl).trans hh)
    obtain ⟨e1, e2⟩ := cells_at (v := .slice qv L.length cv) (j := 0) h3 rfl
    have p1 := fun u => cells_put (j := 0) h3 u
    have p2 := fun u x => cells_put (j := 1) (p1 u) x
    exact hG q c hv e1 e2 (((Below.refl _ _).alloc (by omega) _).grown hg (by simp; omega) (fun k hk => by have := rowBaseB hrow k hk; omega)) (fun u => (cells_at (p1 u) rfl).1) (fun u => (cells_at (p1 u) rfl).1) (fun u => (cells_at (v := .int .i64 (b : Int)) (p1 u) rfl).2) (fun u x => (cells_at (p2 u x) rfl).1) (fun u x => p2 u x)
  go_enter Tryz.func74, Tryz.ntmps74
  go_wp2_with fail
  refine (isType_in k _).mono ?_
  rintro e w1 ⟨rfl, rfl⟩
  rw [hd]
  go_wp2_with fail
  refine (must_yes _).mono ?_
  rintro e w2 ⟨rfl, rfl⟩
  have hrwA : ∀ o, (w2.alloc o).ownsRow (d + 1) 5 1 (.slice qv L.length cv) L.length (Lib.byteCells L) := fun o => row_alloc hrow o
  have HHH := Hid.mk hh
  clear hrow hh
  go_wp2_with (at_builtin; refine wpList_append_own _ rfl _ _ 118 rfl (d + 1) 5 i0 (.int .u8 0) 1 1 Tryz.underlying118 hi hz0 hz1 hz2 rfl (by decide) _ _ _ rfl (hrwA _) ⟨w2.heap.size, 0, none⟩ 2 2 [.int .u8 (((UInt8.ofNat (k / 256)).toNat : Nat) : Int), .int .u8 0] rfl rfl (fun j u hj => cells_new1 _ _ _ j u hj) (by simp [Value.oneCell']) (by unfold maxLen; omega) (by omega) (by simp; omega) ?_; intro v1 w3 hown3 hgrow3 _; refine HL.out _ v1 w3 _ hown3 hgrow3 ?_; intro q3 cc3 hv3 c03 f03 hb3 g1 g2 g3 g4 g5; subst hv3)
  rw [HCA.out, HAi.out]
  obtain ⟨W2, hW2⟩ : ∃ W2, W2 = ((w3.setCell ⟨d, 0, none⟩ (.slice q3 (L.length + 2) cc3)).setCell ⟨d, 1, none⟩ (.int .i64 (b1 : Int))) := ⟨_, rfl⟩
  rw [← hW2]
  have HTL2 : Hid (TL W2 d L1 b1 last) := by
    refine ⟨.slice q3 (L.length + 2) cc3, by rw [hW2]; exact g5 _ _, ?_⟩
    rw [hW2, HL1L.out, ← HL1.out]
    have hx := ownsRow_setCell_below (ownsRow_setCell_below hown3 (a := ⟨d, 0, none⟩) (Nat.lt_succ_self d) (.slice q3 (L.length + 2) cc3)) (a := ⟨d, 1, none⟩) (Nat.lt_succ_self d) (.int .i64 (b1 : Int))
    rw [byteCells_snoc, ← HB1E.out]
    rw [← HB1E.out] at hx
    exact hx
  have HB2 : Hid (Below d w2 W2) := by
    rw [Hid, hW2]
    exact (hb3.setCell (p := ⟨d, 0, none⟩) (Nat.le_refl _) _).setCell (p := ⟨d, 1, none⟩) (Nat.le_refl _) _
  have hdl2 : d < W2.heap.size := Nat.lt_of_lt_of_le hdl HB2.out.size
  clear hown3 hgrow3 HL hrwA HHH hW2 c0 f0 c2 c03 f03 hb3 g1 g2 g3 g4 g5 hu8
  go_loopw [] (fun wr => ∃ n : Nat, L1.length + n ≤ 10100 ∧ (n = 0 ∨ L1.length + n ≤ A + 1) ∧ TL wr d (L1 ++ List.replicate n 0) b1 last ∧ Below d W2 wr ∧ d < wr.heap.size) (fun wr => A + 1 - slLen (wr.cell? ⟨d, 0, none⟩))
  case atStart => exact ⟨0, by omega, .inl rfl, by simpa using HTL2.out, Below.refl _ _, hdl2⟩
  case round =>
    obtain ⟨n, hn, hn2, ⟨v, hh, hrow⟩, hbl, hdr⟩ := hrel
    obtain ⟨qw, cw, hqw⟩ := row_as hrow
    subst hqw
    have hlen : (L1 ++ List.replicate n 0).length = L1.length + n := by simp
    rw [hlen] at hh hrow
    obtain ⟨c0, f0⟩ := cells_at (v := .slice qw (L1.length + n) cw) (j := 0) hh rfl
    by_cases hlt : L1.length + n ≤ A
    · have HL : Hid (∀ (G : Prop) (v1 : Value) (w3 : World), w3.ownsRow (d + 1) 5 1 v1 (L1.length + n + 1) (Lib.byteCells (L1 ++ List.replicate n 0) ++ [.int .u8 0]) → (wr.alloc (.cells #[.int .u8 0] 5)).grownBy w3 (Value.slice qw (L1.length + n) cw).ownBlock →
          (∀ q c, v1 = .slice q (L1.length + n + 1) c → w3.heap[d]? = some (.cells #[.slice qw (L1.length + n) cw, .int .i64 (b1 : Int), .int .i64 last] 124 (0, 0)) → w3.cell? ⟨d, 0, none⟩ = some (.slice qw (L1.length + n) cw) → w3.frozen? ⟨d, 0, none⟩ = false → Below d W2 w3 → G) → G) := by
        intro G v1 w3 ho hg hG
        obtain ⟨q, c, hv⟩ := row_as ho
        have hne : some d ≠ (Value.slice qw (L1.length + n) cw).ownBlock := fun e => by have := rowBaseB hrow d e.symm; omega
        have h3 := (hg.block d (by simp; omega) hne).trans ((alloc_old _ _ _ hdr).trans hh)
        obtain ⟨e1, e2⟩ := cells_at (v := .slice qw (L1.length + n) cw) (j := 0) h3 rfl
        exact hG q c hv h3 e1 e2 ((hbl.alloc (by omega) _).grown hg (by simp; omega) (fun k hk => by have := rowBaseB hrow k hk; omega))
      go_wp2_with (at_builtin; refine wpList_append_own _ rfl _ _ 118 rfl (d + 1) 5 i0 (.int .u8 0) 1 1 Tryz.underlying118 hi hz0 hz1 hz2 rfl (by decide) _ _ _ rfl (row_alloc hrow _) ⟨wr.heap.size, 0, none⟩ 1 1 [.int .u8 0] rfl rfl (cell_one_new _ _ _) (by simp [Value.oneCell']) (by unfold maxLen; omega) (by omega) (by simp; omega) ?_; intro v1 w3 hown3 hgrow3 _; refine HL.out _ v1 w3 hown3 hgrow3 ?_; intro q3 cc3 hv3 hh3 c03 f03 hb3; subst hv3)
      have HST := Hid.mk (cells_put (j := 0) hh3 (.slice q3 (L1.length + n + 1) cc3))
      have HSZ : Hid (d < w3.heap.size) := Nat.lt_of_lt_of_le hdl2 hb3.size
      have HRR : Hid (w3.ownsRow (d + 1) 5 1 (.slice q3 (L1.length + n + 1) cc3) (L1 ++ List.replicate (n + 1) 0).length (Lib.byteCells (L1 ++ List.replicate (n + 1) 0))) := by
        have e1 : L1 ++ List.replicate (n + 1) (0 : UInt8) = (L1 ++ List.replicate n 0) ++ [0] := by rw [List.replicate_succ', List.append_assoc]
        have e2 : ((L1 ++ List.replicate n (0 : UInt8)) ++ [0]).length = L1.length + n + 1 := by simp; omega
        rw [Hid, e1, byteCells_snoc, e2]
        exact hown3
      have HM1 : Hid (slLen (wr.cell? ⟨d, 0, none⟩) = L1.length + n) := by rw [Hid, c0]; rfl
      clear hown3 hgrow3 HL hrow
      have HLT : Hid (A + 1 - slLen ((w3.setCell ⟨d, 0, none⟩ (.slice q3 (L1.length + n + 1) cc3)).cell? ⟨d, 0, none⟩) < A + 1 - slLen (wr.cell? ⟨d, 0, none⟩)) := by
        rw [Hid, HM1.out, (cells_at (v := .slice q3 (L1.length + n + 1) cc3) (j := 0) HST.out rfl).1]
        simp only [slLen]
        omega
      have hrelN : ∃ n' : Nat, L1.length + n' ≤ 10100 ∧ (n' = 0 ∨ L1.length + n' ≤ A + 1) ∧ TL (w3.setCell ⟨d, 0, none⟩ (.slice q3 (L1.length + n + 1) cc3)) d (L1 ++ List.replicate n' 0) b1 last ∧ Below d W2 (w3.setCell ⟨d, 0, none⟩ (.slice q3 (L1.length + n + 1) cc3)) ∧ d < (w3.setCell ⟨d, 0, none⟩ (.slice q3 (L1.length + n + 1) cc3)).heap.size :=
        ⟨n + 1, by omega, .inr (by omega), ⟨_, HST.out, ownsRow_setCell_below HRR.out (a := ⟨d, 0, none⟩) (Nat.lt_succ_self d) _⟩, hb3.setCell (p := ⟨d, 0, none⟩) (Nat.le_refl _) _, by simp [World.setCell]; exact HSZ.out⟩
      go_wp2
      go_roundw
      case rel => exact hrelN
      case measure => exact HLT.out
    · have hn3 : n = A + 1 - L1.length := by omega
      have hAl : A < (L1 ++ List.replicate n 0).length := by rw [hlen]; omega
      obtain ⟨g, cap, hgc⟩ := row_form hrow (by omega)
      cases hgc
      have HTL : Hid (addTail L1 b1 k = (((L1 ++ List.replicate n 0).set A (UInt8.ofNat ((L1 ++ List.replicate n (0 : UInt8))[A].toNat ||| 2 ^ (7 - k % 8)))).set (b1 - 1) (UInt8.ofNat (L1.length + n - b1)))) := by
        rw [Hid, addTail, ← HA.out, ← hn3, List.length_set, hlen, List.getD_eq_getElem?_getD, List.getElem?_eq_getElem hAl]
        rfl
      have hAc := byte_cell hrow A hAl
      obtain ⟨hAf, hgl, hgb⟩ := row_frozen (j := A) hrow (by omega)
      have hx := (L1 ++ List.replicate n (0 : UInt8))[A].toNat_lt
      have hst1 := row_store (j := A) hrow (by omega) (.int .u8 (((UInt8.ofNat ((L1 ++ List.replicate n (0 : UInt8))[A].toNat ||| 2 ^ (7 - k % 8))).toNat : Nat) : Int))
      rw [byteCells_set] at hst1
      have hor := or_u8 (L1 ++ List.replicate n (0 : UInt8))[A].toNat (2 ^ (7 - k % 8)) (by omega) (pow_lt8 k)
      have hAi0 : (0 : Int) ≤ (A : Int) := by omega
      have hAi1 : (A : Int) < ((L1.length + n : Nat) : Int) := by omega
      have hdg : d ≠ g := by omega
      have hor3 : Go.bits BinOp.or IntKind.u8 ((L1 ++ List.replicate n (0 : UInt8))[A].toNat : Int) (2 ^ (7 - k % 8) % 256) = (((UInt8.ofNat ((L1 ++ List.replicate n (0 : UInt8))[A].toNat ||| 2 ^ (7 - k % 8))).toNat : Nat) : Int) := by
        have e : ((2 : Int) ^ (7 - k % 8) % 256) = ((2 ^ (7 - k % 8) : Nat) : Int) := by
          have hpw := pow_lt8 k
          have e2 : (2 : Int) ^ (7 - k % 8) = ((2 ^ (7 - k % 8) : Nat) : Int) := by push_cast; rfl
          rw [e2]
          generalize 2 ^ (7 - k % 8) = q at hpw
          omega
        rw [e]
        exact hor
      have hr0 : (0 : Int) ≤ 7 - (k : Int).tmod 8 := by rw [Int.tmod_eq_emod_of_nonneg (by omega)]; omega
      clear hlen hor
      generalize (L1 ++ List.replicate n (0 : UInt8))[A].toNat = x at hAc hx hst1 hor3 HTL
      generalize L1 ++ List.replicate n (0 : UInt8) = L2 at hst1 hrow hAl HTL
      have HST1 := Hid.mk hst1
      have HRW := Hid.mk hrow
      clear hst1 hrow hn2 hn3 hlt
      go_wp2
      have HOR := Hid.mk hor3
      clear hor3
      go_region
      rw [HOR.out]
      obtain ⟨y, hy⟩ : ∃ y, (UInt8.ofNat (x ||| 2 ^ (7 - k % 8))) = y := ⟨_, rfl⟩
      rw [hy] at HST1 HTL ⊢
      obtain ⟨W5, hW5⟩ : ∃ W5, W5 = (wr.setCell ⟨g, A, none⟩ (.int .u8 (y.toNat : Int))).drew := ⟨_, rfl⟩
      rw [← hW5]
      have hh5 : W5.heap[d]? = some (.cells #[.slice (some ⟨g, 0, none⟩) (L1.length + n) cw, .int .i64 (b1 : Int), .int .i64 last] 124 (0, 0)) := by
        rw [hW5]
        exact (Below.heap_setCell wr ⟨g, A, none⟩ _ d hdg).trans hh
      have hrow5 : W5.ownsRow (d + 1) 5 1 (.slice (some ⟨g, 0, none⟩) (L1.length + n) cw) (L1.length + n) (Lib.byteCells (L2.set A y)) := by rw [hW5]; exact HST1.out
      have hbl5 : Below d W2 W5 := by rw [hW5]; exact (hbl.setCell (p := ⟨g, A, none⟩) (by simp; omega) _).drew
      obtain ⟨e0, _⟩ := cells_at (v := .slice (some ⟨g, 0, none⟩) (L1.length + n) cw) (j := 0) hh5 rfl
      obtain ⟨e1, _⟩ := cells_at (v := .int .i64 (b1 : Int)) (j := 1) hh5 rfl
      obtain ⟨e2, f2⟩ := cells_at (v := .int .i64 last) (j := 2) hh5 rfl
      have hL2 : (L2.set A y).length = L1.length + n := by
        have := hrow5.1
        simpa [Lib.byteCells] using this
      have hbc := byte_cell hrow5 (b1 - 1) (by omega)
      obtain ⟨hbf, _, _⟩ := row_frozen (j := b1 - 1) hrow5 (by omega)
      have hst2 := row_store (j := b1 - 1) hrow5 (by omega) (.int .u8 (((UInt8.ofNat (L1.length + n - b1)).toNat : Nat) : Int))
      rw [byteCells_set] at hst2
      have HST2 := Hid.mk hst2
      have HH5 := Hid.mk hh5
      have HL2 := Hid.mk hL2
      have hbi : ((b1 : Int) - 1) = ((b1 - 1 : Nat) : Int) := by omega
      have hbi0 : (0 : Int) ≤ (b1 : Int) - 1 := by omega
      have hbi1 : (b1 : Int) - 1 < ((L1.length + n : Nat) : Int) := by omega
      have hcvb : IntKind.u8.wrap (((L1.length + n : Nat) : Int) - (b1 : Int)) = (((UInt8.ofNat (L1.length + n - b1)).toNat : Nat) : Int) := wrapu8 _ _ (by omega)
      generalize (L2.set A y)[b1 - 1]'(by omega) = z at hbc
      clear hst2 hrow5 hh5 hL2 HST1 HRW HOR hW5 hh hAc hAf c0 f0
      have HVL : Hid (((L1.length : Int) + (n : Int) - (b1 : Int)) % 256 = (((UInt8.ofNat (L1.length + n - b1)).toNat : Nat) : Int)) := by
        rw [Hid, UInt8.toNat_ofNat']
        omega
      go_wp2
      go_region
      rw [HVL.out]
      obtain ⟨W6, hW6⟩ : ∃ W6, W6 = (W5.setCell ⟨g, b1 - 1, none⟩ (.int .u8 (((UInt8.ofNat (L1.length + n - b1)).toNat : Nat) : Int))).drew := ⟨_, rfl⟩
      rw [← hW6]
      have hh6 : W6.heap[d]? = some (.cells #[.slice (some ⟨g, 0, none⟩) (L1.length + n) cw, .int .i64 (b1 : Int), .int .i64 last] 124 (0, 0)) := by
        rw [hW6]
        exact (Below.heap_setCell W5 ⟨g, b1 - 1, none⟩ _ d hdg).trans HH5.out
      have hrow6 : W6.ownsRow (d + 1) 5 1 (.slice (some ⟨g, 0, none⟩) (L1.length + n) cw) (addTail L1 b1 k).length (Lib.byteCells (addTail L1 b1 k)) := by
        rw [HTL.out, List.length_set, HL2.out, hW6]
        exact HST2.out
      have hbl6 : Below d W2 W6 := by rw [hW6]; exact (hbl5.setCell (p := ⟨g, b1 - 1, none⟩) (by simp; omega) _).drew
      have hlt6 : (addTail L1 b1 k).length = L1.length + n := by rw [HTL.out, List.length_set, HL2.out]
      obtain ⟨c62, f62⟩ := cells_at (v := .int .i64 last) (j := 2) hh6 rfl
      have HP6 := Hid.mk (cells_put (j := 2) hh6 (.int .i64 (k : Int)))
      have HR6 := Hid.mk hrow6
      have HT6 := Hid.mk hlt6
      clear hrow6 hh6 hW6 hlt6 HTL e0 e1 e2 f2 hbc hbf
      go_wp2
      refine bodyPost_end (results_none rfl _ _ _) rfl ⟨rfl, ⟨_, HP6.out, ?_⟩, HB2.out.trans (hbl6.setCell (p := ⟨d, 2, none⟩) (Nat.le_refl _) _)⟩
      exact ownsRow_setCell_below HR6.out (a := ⟨d, 2, none⟩) (Nat.lt_succ_self d) _
end Go.Proofs.YtdhcbaennpediaaGreatDoor
