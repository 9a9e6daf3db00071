/- Texts of this proof, joined: DBytes, DKey, DTyFacts. -/
import Derived.Test.YtaiakpigljcjbaaGreatDoorJ4
import Derived.Deep.RegionHeld3
import Derived.Test.YtaiakpigljcjbaaGreatDoorJ8
import Derived.Test.YtaiakpigljcjbaaGreatDoorJ6
/- bytesOf: a number as one, two or four bytes. -/
namespace Go.Proofs.YtaiakpigljcjbaaGreatDoor
set_option linter.unusedVariables false
set_option linter.unusedSimpArgs false
open Go.RowKit

/-- a number as so many bytes. -/
def bytesB (n w : Nat) : List UInt8 := (List.range w).map fun i => UInt8.ofNat (n / 256 ^ (w - 1 - i))
theorem bytesB_len (n w : Nat) : (bytesB n w).length = w := by simp [bytesB]
theorem byte_back (q : Nat) (b : UInt8) (h : q % 256 = b.toNat) : UInt8.ofNat q = b := by
  apply UInt8.toNat_inj.1
  rw [UInt8.toNat_ofNat']
  exact h
theorem bytesB1 (n : Nat) : bytesB n 1 = [UInt8.ofNat n] := by simp [bytesB, List.range_succ]
theorem bytesB2 (n : Nat) : bytesB n 2 = [UInt8.ofNat (n / 256), UInt8.ofNat n] := by simp [bytesB, List.range_succ]
theorem bytesB4 (n : Nat) : bytesB n 4 = [UInt8.ofNat (n / 16777216), UInt8.ofNat (n / 65536), UInt8.ofNat (n / 256), UInt8.ofNat n] := by simp [bytesB, List.range_succ]
theorem bytesB_num (l : List UInt8) (h : l.length = 1 ∨ l.length = 2 ∨ l.length = 4) : bytesB (numB l) l.length = l := by
  rcases h with h | h | h
  · match l, h with
    | [a], _ =>
      have ha := a.toNat_lt
      rw [show [a].length = 1 from rfl, bytesB1, byte_back (numB [a]) a (by simp only [numB, List.foldl]; omega)]
  · match l, h with
    | [a, b], _ =>
      have ha := a.toNat_lt
      have hb := b.toNat_lt
      rw [show [a, b].length = 2 from rfl, bytesB2, byte_back (numB [a, b] / 256) a (by simp only [numB, List.foldl]; omega), byte_back (numB [a, b]) b (by simp only [numB, List.foldl]; omega)]
  · match l, h with
    | [a, b, c, d], _ =>
      have ha := a.toNat_lt
      have hb := b.toNat_lt
      have hc := c.toNat_lt
      have hd := d.toNat_lt
      rw [show [a, b, c, d].length = 4 from rfl, bytesB4, byte_back (numB [a, b, c, d] / 16777216) a (by simp only [numB, List.foldl]; omega), byte_back (numB [a, b, c, d] / 65536) b (by simp only [numB, List.foldl]; omega), byte_back (numB [a, b, c, d] / 256) c (by simp only [numB, List.foldl]; omega), byte_back (numB [a, b, c, d]) d (by simp only [numB, List.foldl]; omega)]

theorem cells_put {W : World} {b j : Nat} {cs : Array Value} {t : TypeId} (h : W.heap[b]? = some (.cells cs t (0, 0))) (u : Value) : (W.setCell ⟨b, j, none⟩ u).heap[b]? = some (.cells (cs.setIfInBounds j u) t (0, 0)) := by
  simp only [World.setCell, Array.getElem?_modify, h]
  rfl
theorem cells_at {W : World} {b j : Nat} {cs : Array Value} {t : TypeId} {v : Value} (h : W.heap[b]? = some (.cells cs t (0, 0))) (hj : cs[j]? = some v) : W.cell? ⟨b, j, none⟩ = some v ∧ W.frozen? ⟨b, j, none⟩ = false := by
  simp [World.cell?, World.frozen?, h, hj]
theorem wrapu8 (x : Int) (q : Nat) (h : x = (q : Int)) : IntKind.u8.wrap x = (((UInt8.ofNat q).toNat : Nat) : Int) := by
  rw [IntKind.wrap_u8, UInt8.toNat_ofNat', h]
  omega

def BytPost (n : Int) (w : Nat) (W : World) (e : Ending) (w' : World) : Prop := (if 0 ≤ n ∧ n < 256 ^ w then e = .returned (.string ⟨(bytesB n.toNat w).toArray⟩) else e = .panicked mustV) ∧ Below W.heap.size W w'

set_option maxRecDepth 100000 in
set_option maxHeartbeats 2000000 in
theorem bytes1_yes (n : Nat) (hn : n < 256) (w : World) :
    Calls Tryz.prog 170 #[.int .i64 (n : Int), .int .i64 1] w fun e w' => e = .returned (.string ⟨(bytesB n 1).toArray⟩) ∧ Below w.heap.size w w' := by
  obtain ⟨i0, hi, hz0, hz1, hz2⟩ := info_parts info5
  have hsh : (n : Int) / 256 = 0 := by omega
  have HBB : Hid ((⟨(bytesB n 1).toArray⟩ : ByteArray) = ⟨([UInt8.ofNat (n)] : List UInt8).toArray⟩) := by
    rw [Hid]
    simp [bytesB, List.range_succ]
  go_enter Tryz.func170, Tryz.ntmps170
  go_wp2_with fail
  refine (must_yes _).mono ?_
  rintro e w1 ⟨rfl, rfl⟩
  obtain ⟨M, hM⟩ : ∃ M, M = madeCells (Value.int .u8 0).cells (((1 : Nat) : Int).toNat * i0.size) := ⟨_, rfl⟩
  have hMs : M.size = 1 := by rw [hM, size_madeCells, hz1]; simp
  have hmk : ∀ W : World, (Instr.makeSlice 50 (.int .i64 1) (.int .i64 1)).run Tryz.prog W = .ok (.slice (some ⟨W.heap.size, 0, none⟩) 1 1) (W.alloc (.cells M 5)) := fun W => by
    have h := run_make (P := Tryz.prog) W 50 5 i0 (.int .u8 0) Tryz.underlying50 hi hz0 .i64 .i64 ((1 : Nat) : Int) ((1 : Nat) : Int) (by omega) (by omega) (by rw [hz2]; omega) (by omega)
    rw [← hM] at h
    simpa using h
  obtain ⟨v0, hv0⟩ : ∃ v0, M = #[v0] := by
    match M, hMs with
    | ⟨[v0]⟩, _ => exact ⟨v0, rfl⟩
  subst hv0
  clear hM hMs
  go_wp2
  clear hmk
  go_loopw [21] (fun i wr => ∃ (j : Nat) (v0 : Value), j ≤ 1 ∧ i = .int .i64 j ∧ (1 ≤ j → v0 = .int .u8 (((UInt8.ofNat (n)).toNat : Nat) : Int)) ∧ wr.heap[w1.heap.size]? = some (.cells #[v0] 5 (0, 0)) ∧ Below w1.heap.size w1 wr) (fun i _ => 1 - (intOf i).toNat)
  case atStart => exact ⟨0, v0, by omega, rfl, fun h => absurd h (by omega), heap_new _ _, (Below.refl _ _).alloc (Nat.le_refl _) _⟩
  case round =>
    obtain ⟨j, v0, hj, rfl, hv0, hh, hbl⟩ := hrel
    rcases (show j = 0 ∨ j = 1 by omega) with rfl | rfl
    · obtain ⟨hc, hf⟩ := cells_at (j := 0) hh rfl
      have hbs := Hid.mk (cells_put (j := 0) hh (.int .u8 (((UInt8.ofNat (n)).toNat : Nat) : Int)))
      have hwr := wrapu8 ((n : Int)) (n) (by omega)
      go_wp2
      exact ⟨⟨1, (.int .u8 (((UInt8.ofNat (n)).toNat : Nat) : Int)), by omega, rfl, fun _ => rfl, hbs.out, hbl.setCell (p := ⟨w1.heap.size, 0, none⟩) (Nat.le_refl _) _⟩, by simp [intOf]⟩
    · obtain rfl := hv0 (by omega)
      have hcv := run_convert_bytes_back (P := Tryz.prog) wr 50 9 5 ⟨w1.heap.size, 0, none⟩ 1 [UInt8.ofNat (n)] Tryz.underlying50 Tryz.underlying5 Tryz.underlying9 (fun j hj => by
        simp only [List.length_cons, List.length_nil] at hj
        rw [add_at]
        rcases (show j = 0 by omega) with rfl
        all_goals exact (cells_at hh rfl).1)
      simp only [List.length_cons, List.length_nil, Nat.zero_add, Nat.reduceAdd] at hcv
      clear hv0
      go_wp2
      go_ret
      exact ⟨by rw [HBB.out]; rfl, hbl⟩

theorem bytes1_in (n : Int) (w : World) : Calls Tryz.prog 170 #[.int .i64 n, .int .i64 1] w fun e w' => BytPost n 1 w e w' := by
  by_cases h0 : 0 ≤ n
  · by_cases h1 : n < 256
    · obtain ⟨m, rfl⟩ : ∃ m : Nat, n = m := ⟨n.toNat, by omega⟩
      refine (bytes1_yes m (by omega) w).mono ?_
      rintro e w' ⟨rfl, hb⟩
      refine ⟨?_, hb⟩
      rw [if_pos ⟨h0, by omega⟩]
      rfl
    · have hsh : ¬ n / 256 = 0 := by omega
      have hsb : (n / 256 == 0) = false := by simpa using hsh
      go_enter Tryz.func170, Tryz.ntmps170
      go_wp2_with fail
      refine (must_no _).mono ?_
      rintro e w1 ⟨rfl, rfl⟩
      go_wp2
      refine ⟨rfl, ?_, Below.refl _ _⟩
      rw [if_neg (by omega)]
  · go_enter Tryz.func170, Tryz.ntmps170
    go_wp2_with fail
    refine (must_no _).mono ?_
    rintro e w1 ⟨rfl, rfl⟩
    go_wp2
    refine ⟨rfl, ?_, Below.refl _ _⟩
    rw [if_neg (by omega)]

set_option maxRecDepth 100000 in
set_option maxHeartbeats 2000000 in
theorem bytes2_yes (n : Nat) (hn : n < 65536) (w : World) :
    Calls Tryz.prog 170 #[.int .i64 (n : Int), .int .i64 2] w fun e w' => e = .returned (.string ⟨(bytesB n 2).toArray⟩) ∧ Below w.heap.size w w' := by
  obtain ⟨i0, hi, hz0, hz1, hz2⟩ := info_parts info5
  have hsh : (n : Int) / 65536 = 0 := by omega
  have HBB : Hid ((⟨(bytesB n 2).toArray⟩ : ByteArray) = ⟨([UInt8.ofNat (n / 256), UInt8.ofNat (n)] : List UInt8).toArray⟩) := by
    rw [Hid]
    simp [bytesB, List.range_succ]
  go_enter Tryz.func170, Tryz.ntmps170
  go_wp2_with fail
  refine (must_yes _).mono ?_
  rintro e w1 ⟨rfl, rfl⟩
  obtain ⟨M, hM⟩ : ∃ M, M = madeCells (Value.int .u8 0).cells (((2 : Nat) : Int).toNat * i0.size) := ⟨_, rfl⟩
  have hMs : M.size = 2 := by rw [hM, size_madeCells, hz1]; simp
  have hmk : ∀ W : World, (Instr.makeSlice 50 (.int .i64 2) (.int .i64 2)).run Tryz.prog W = .ok (.slice (some ⟨W.heap.size, 0, none⟩) 2 2) (W.alloc (.cells M 5)) := fun W => by
    have h := run_make (P := Tryz.prog) W 50 5 i0 (.int .u8 0) Tryz.underlying50 hi hz0 .i64 .i64 ((2 : Nat) : Int) ((2 : Nat) : Int) (by omega) (by omega) (by rw [hz2]; omega) (by omega)
    rw [← hM] at h
    simpa using h
  obtain ⟨v0, v1, hv0⟩ : ∃ v0 v1, M = #[v0, v1] := by
    match M, hMs with
    | ⟨[v0, v1]⟩, _ => exact ⟨v0, v1, rfl⟩
  subst hv0
  clear hM hMs
  go_wp2
  clear hmk
  go_loopw [21] (fun i wr => ∃ (j : Nat) (v0 v1 : Value), j ≤ 2 ∧ i = .int .i64 j ∧ (1 ≤ j → v0 = .int .u8 (((UInt8.ofNat (n / 256)).toNat : Nat) : Int)) ∧ (2 ≤ j → v1 = .int .u8 (((UInt8.ofNat (n)).toNat : Nat) : Int)) ∧ wr.heap[w1.heap.size]? = some (.cells #[v0, v1] 5 (0, 0)) ∧ Below w1.heap.size w1 wr) (fun i _ => 2 - (intOf i).toNat)
  case atStart => exact ⟨0, v0, v1, by omega, rfl, fun h => absurd h (by omega), fun h => absurd h (by omega), heap_new _ _, (Below.refl _ _).alloc (Nat.le_refl _) _⟩
  case round =>
    obtain ⟨j, v0, v1, hj, rfl, hv0, hv1, hh, hbl⟩ := hrel
    rcases (show j = 0 ∨ j = 1 ∨ j = 2 by omega) with rfl | rfl | rfl
    · obtain ⟨hc, hf⟩ := cells_at (j := 0) hh rfl
      have hbs := Hid.mk (cells_put (j := 0) hh (.int .u8 (((UInt8.ofNat (n / 256)).toNat : Nat) : Int)))
      have hwr := wrapu8 ((n : Int) / 256) (n / 256) (by omega)
      go_wp2
      exact ⟨⟨1, (.int .u8 (((UInt8.ofNat (n / 256)).toNat : Nat) : Int)), v1, by omega, rfl, fun _ => rfl, fun h => absurd h (by omega), hbs.out, hbl.setCell (p := ⟨w1.heap.size, 0, none⟩) (Nat.le_refl _) _⟩, by simp [intOf]⟩
    · obtain ⟨hc, hf⟩ := cells_at (j := 1) hh rfl
      have hbs := Hid.mk (cells_put (j := 1) hh (.int .u8 (((UInt8.ofNat (n)).toNat : Nat) : Int)))
      have hwr := wrapu8 ((n : Int)) (n) (by omega)
      go_wp2
      exact ⟨⟨2, v0, (.int .u8 (((UInt8.ofNat (n)).toNat : Nat) : Int)), by omega, rfl, fun _ => hv0 (by omega), fun _ => rfl, hbs.out, hbl.setCell (p := ⟨w1.heap.size, 1, none⟩) (Nat.le_refl _) _⟩, by simp [intOf]⟩
    · obtain rfl := hv0 (by omega)
      obtain rfl := hv1 (by omega)
      have hcv := run_convert_bytes_back (P := Tryz.prog) wr 50 9 5 ⟨w1.heap.size, 0, none⟩ 2 [UInt8.ofNat (n / 256), UInt8.ofNat (n)] Tryz.underlying50 Tryz.underlying5 Tryz.underlying9 (fun j hj => by
        simp only [List.length_cons, List.length_nil] at hj
        rw [add_at]
        rcases (show j = 0 ∨ j = 1 by omega) with rfl | rfl
        all_goals exact (cells_at hh rfl).1)
      simp only [List.length_cons, List.length_nil, Nat.zero_add, Nat.reduceAdd] at hcv
      clear hv0 hv1
      go_wp2
      go_ret
      exact ⟨by rw [HBB.out]; rfl, hbl⟩

theorem bytes2_in (n : Int) (w : World) : Calls Tryz.prog 170 #[.int .i64 n, .int .i64 2] w fun e w' => BytPost n 2 w e w' := by
  by_cases h0 : 0 ≤ n
  · by_cases h1 : n < 65536
    · obtain ⟨m, rfl⟩ : ∃ m : Nat, n = m := ⟨n.toNat, by omega⟩
      refine (bytes2_yes m (by omega) w).mono ?_
      rintro e w' ⟨rfl, hb⟩
      refine ⟨?_, hb⟩
      rw [if_pos ⟨h0, by omega⟩]
      rfl
    · have hsh : ¬ n / 65536 = 0 := by omega
      have hsb : (n / 65536 == 0) = false := by simpa using hsh
      go_enter Tryz.func170, Tryz.ntmps170
      go_wp2_with fail
      refine (must_no _).mono ?_
      rintro e w1 ⟨rfl, rfl⟩
      go_wp2
      refine ⟨rfl, ?_, Below.refl _ _⟩
      rw [if_neg (by omega)]
  · go_enter Tryz.func170, Tryz.ntmps170
    go_wp2_with fail
    refine (must_no _).mono ?_
    rintro e w1 ⟨rfl, rfl⟩
    go_wp2
    refine ⟨rfl, ?_, Below.refl _ _⟩
    rw [if_neg (by omega)]

set_option maxRecDepth 100000 in
set_option maxHeartbeats 2000000 in
theorem bytes4_yes (n : Nat) (hn : n < 4294967296) (w : World) :
    Calls Tryz.prog 170 #[.int .i64 (n : Int), .int .i64 4] w fun e w' => e = .returned (.string ⟨(bytesB n 4).toArray⟩) ∧ Below w.heap.size w w' := by
  obtain ⟨i0, hi, hz0, hz1, hz2⟩ := info_parts info5
  have hsh : (n : Int) / 4294967296 = 0 := by omega
  have HBB : Hid ((⟨(bytesB n 4).toArray⟩ : ByteArray) = ⟨([UInt8.ofNat (n / 16777216), UInt8.ofNat (n / 65536), UInt8.ofNat (n / 256), UInt8.ofNat (n)] : List UInt8).toArray⟩) := by
    rw [Hid]
    simp [bytesB, List.range_succ]
  go_enter Tryz.func170, Tryz.ntmps170
  go_wp2_with fail
  refine (must_yes _).mono ?_
  rintro e w1 ⟨rfl, rfl⟩
  obtain ⟨M, hM⟩ : ∃ M, M = madeCells (Value.int .u8 0).cells (((4 : Nat) : Int).toNat * i0.size) := ⟨_, rfl⟩
  have hMs : M.size = 4 := by rw [hM, size_madeCells, hz1]; simp
  have hmk : ∀ W : World, (Instr.makeSlice 50 (.int .i64 4) (.int .i64 4)).run Tryz.prog W = .ok (.slice (some ⟨W.heap.size, 0, none⟩) 4 4) (W.alloc (.cells M 5)) := fun W => by
    have h := run_make (P := Tryz.prog) W 50 5 i0 (.int .u8 0) Tryz.underlying50 hi hz0 .i64 .i64 ((4 : Nat) : Int) ((4 : Nat) : Int) (by omega) (by omega) (by rw [hz2]; omega) (by omega)
    rw [← hM] at h
    simpa using h
  obtain ⟨v0, v1, v2, v3, hv0⟩ : ∃ v0 v1 v2 v3, M = #[v0, v1, v2, v3] := by
    match M, hMs with
    | ⟨[v0, v1, v2, v3]⟩, _ => exact ⟨v0, v1, v2, v3, rfl⟩
  subst hv0
  clear hM hMs
  go_wp2
  clear hmk
  go_loopw [21] (fun i wr => ∃ (j : Nat) (v0 v1 v2 v3 : Value), j ≤ 4 ∧ i = .int .i64 j ∧ (1 ≤ j → v0 = .int .u8 (((UInt8.ofNat (n / 16777216)).toNat : Nat) : Int)) ∧ (2 ≤ j → v1 = .int .u8 (((UInt8.ofNat (n / 65536)).toNat : Nat) : Int)) ∧ (3 ≤ j → v2 = .int .u8 (((UInt8.ofNat (n / 256)).toNat : Nat) : Int)) ∧ (4 ≤ j → v3 = .int .u8 (((UInt8.ofNat (n)).toNat : Nat) : Int)) ∧ wr.heap[w1.heap.size]? = some (.cells #[v0, v1, v2, v3] 5 (0, 0)) ∧ Below w1.heap.size w1 wr) (fun i _ => 4 - (intOf i).toNat)
  case atStart => exact ⟨0, v0, v1, v2, v3, by omega, rfl, fun h => absurd h (by omega), fun h => absurd h (by omega), fun h => absurd h (by omega), fun h => absurd h (by omega), heap_new _ _, (Below.refl _ _).alloc (Nat.le_refl _) _⟩
  case round =>
    obtain ⟨j, v0, v1, v2, v3, hj, rfl, hv0, hv1, hv2, hv3, hh, hbl⟩ := hrel
    rcases (show j = 0 ∨ j = 1 ∨ j = 2 ∨ j = 3 ∨ j = 4 by omega) with rfl | rfl | rfl | rfl | rfl
    · obtain ⟨hc, hf⟩ := cells_at (j := 0) hh rfl
      have hbs := Hid.mk (cells_put (j := 0) hh (.int .u8 (((UInt8.ofNat (n / 16777216)).toNat : Nat) : Int)))
      have hwr := wrapu8 ((n : Int) / 16777216) (n / 16777216) (by omega)
      go_wp2
      exact ⟨⟨1, (.int .u8 (((UInt8.ofNat (n / 16777216)).toNat : Nat) : Int)), v1, v2, v3, by omega, rfl, fun _ => rfl, fun h => absurd h (by omega), fun h => absurd h (by omega), fun h => absurd h (by omega), hbs.out, hbl.setCell (p := ⟨w1.heap.size, 0, none⟩) (Nat.le_refl _) _⟩, by simp [intOf]⟩
    · obtain ⟨hc, hf⟩ := cells_at (j := 1) hh rfl
      have hbs := Hid.mk (cells_put (j := 1) hh (.int .u8 (((UInt8.ofNat (n / 65536)).toNat : Nat) : Int)))
      have hwr := wrapu8 ((n : Int) / 65536) (n / 65536) (by omega)
      go_wp2
      exact ⟨⟨2, v0, (.int .u8 (((UInt8.ofNat (n / 65536)).toNat : Nat) : Int)), v2, v3, by omega, rfl, fun _ => hv0 (by omega), fun _ => rfl, fun h => absurd h (by omega), fun h => absurd h (by omega), hbs.out, hbl.setCell (p := ⟨w1.heap.size, 1, none⟩) (Nat.le_refl _) _⟩, by simp [intOf]⟩
    · obtain ⟨hc, hf⟩ := cells_at (j := 2) hh rfl
      have hbs := Hid.mk (cells_put (j := 2) hh (.int .u8 (((UInt8.ofNat (n / 256)).toNat : Nat) : Int)))
      have hwr := wrapu8 ((n : Int) / 256) (n / 256) (by omega)
      go_wp2
      exact ⟨⟨3, v0, v1, (.int .u8 (((UInt8.ofNat (n / 256)).toNat : Nat) : Int)), v3, by omega, rfl, fun _ => hv0 (by omega), fun _ => hv1 (by omega), fun _ => rfl, fun h => absurd h (by omega), hbs.out, hbl.setCell (p := ⟨w1.heap.size, 2, none⟩) (Nat.le_refl _) _⟩, by simp [intOf]⟩
    · obtain ⟨hc, hf⟩ := cells_at (j := 3) hh rfl
      have hbs := Hid.mk (cells_put (j := 3) hh (.int .u8 (((UInt8.ofNat (n)).toNat : Nat) : Int)))
      have hwr := wrapu8 ((n : Int)) (n) (by omega)
      go_wp2
      exact ⟨⟨4, v0, v1, v2, (.int .u8 (((UInt8.ofNat (n)).toNat : Nat) : Int)), by omega, rfl, fun _ => hv0 (by omega), fun _ => hv1 (by omega), fun _ => hv2 (by omega), fun _ => rfl, hbs.out, hbl.setCell (p := ⟨w1.heap.size, 3, none⟩) (Nat.le_refl _) _⟩, by simp [intOf]⟩
    · obtain rfl := hv0 (by omega)
      obtain rfl := hv1 (by omega)
      obtain rfl := hv2 (by omega)
      obtain rfl := hv3 (by omega)
      have hcv := run_convert_bytes_back (P := Tryz.prog) wr 50 9 5 ⟨w1.heap.size, 0, none⟩ 4 [UInt8.ofNat (n / 16777216), UInt8.ofNat (n / 65536), UInt8.ofNat (n / 256), UInt8.ofNat (n)] Tryz.underlying50 Tryz.underlying5 Tryz.underlying9 (fun j hj => by
        simp only [List.length_cons, List.length_nil] at hj
        rw [add_at]
        rcases (show j = 0 ∨ j = 1 ∨ j = 2 ∨ j = 3 by omega) with rfl | rfl | rfl | rfl
        all_goals exact (cells_at hh rfl).1)
      simp only [List.length_cons, List.length_nil, Nat.zero_add, Nat.reduceAdd] at hcv
      clear hv0 hv1 hv2 hv3
      go_wp2
      go_ret
      exact ⟨by rw [HBB.out]; rfl, hbl⟩

theorem bytes4_in (n : Int) (w : World) : Calls Tryz.prog 170 #[.int .i64 n, .int .i64 4] w fun e w' => BytPost n 4 w e w' := by
  by_cases h0 : 0 ≤ n
  · by_cases h1 : n < 4294967296
    · obtain ⟨m, rfl⟩ : ∃ m : Nat, n = m := ⟨n.toNat, by omega⟩
      refine (bytes4_yes m (by omega) w).mono ?_
      rintro e w' ⟨rfl, hb⟩
      refine ⟨?_, hb⟩
      rw [if_pos ⟨h0, by omega⟩]
      rfl
    · have hsh : ¬ n / 4294967296 = 0 := by omega
      have hsb : (n / 4294967296 == 0) = false := by simpa using hsh
      go_enter Tryz.func170, Tryz.ntmps170
      go_wp2_with fail
      refine (must_no _).mono ?_
      rintro e w1 ⟨rfl, rfl⟩
      go_wp2
      refine ⟨rfl, ?_, Below.refl _ _⟩
      rw [if_neg (by omega)]
  · go_enter Tryz.func170, Tryz.ntmps170
    go_wp2_with fail
    refine (must_no _).mono ?_
    rintro e w1 ⟨rfl, rfl⟩
    go_wp2
    refine ⟨rfl, ?_, Below.refl _ _⟩
    rw [if_neg (by omega)]

end Go.Proofs.YtaiakpigljcjbaaGreatDoor

/- DNSKEY: taken apart, and put together. -/
namespace Go.Proofs.YtaiakpigljcjbaaGreatDoor
set_option linter.unusedVariables false
open Go.RowKit

theorem row_lit (W : World) (ps : List ByteArray) (h : ps.length ≤ maxLen) (h0 : 0 < ps.length) : (W.alloc (.cells (baV ps).toArray 9)).ownsRow W.heap.size 9 1 (.slice (some ⟨W.heap.size, 0, none⟩) ps.length ps.length) ps.length (baV ps) := by
  refine ⟨by simp [baV], .inr ⟨W.heap.size, ps.length, (baV ps).toArray, rfl, Nat.le_refl _, heap_new _ _, Nat.le_refl _, h, by simp [baV], ?_⟩⟩
  rw [Nat.mul_one, List.toList_toArray, List.take_of_length_le (by simp [baV])]

def TakeKey (d : ByteArray) (v : Value) (er : Int) : Prop := ∃ (n0 n1 n2 : Nat) (s3 : ByteArray), v = .agg #[.int .i64 ((n0 : Nat) : Int), .int .i64 ((n1 : Nat) : Int), .int .i64 ((n2 : Nat) : Int), .string s3] ∧ (n0 < 65536 ∧ n1 < 256 ∧ n2 < 256 ∧ s3.size ≤ 2000) ∧ (er = 0 → joinR 48 (some [⟨(bytesB n0 2).toArray⟩, ⟨(bytesB n1 1).toArray⟩, ⟨(bytesB n2 1).toArray⟩, s3]) = some d) ∧ (er = 0 ∨ (er = 6 ∧ splitR 48 d = none ∧ v = .agg #[.int .i64 0, .int .i64 0, .int .i64 0, .string ⟨#[]⟩]))
theorem takeKey_ok (d p0 p1 p2 p3 : ByteArray) (h : splitR 48 d = some [p0, p1, p2, p3]) : TakeKey d (.agg #[.int .i64 ((numB p0.data.toList : Nat) : Int), .int .i64 ((numB p1.data.toList : Nat) : Int), .int .i64 ((numB p2.data.toList : Nat) : Int), .string p3]) 0 ∧ (p0.size ≤ 7 ∧ p1.size ≤ 7 ∧ p2.size ≤ 7 ∧ p3.size ≤ 2000) := by
  obtain ⟨hk, hs, hd, hg⟩ := (split_iff 48 d _).1 h
  have hg' : p0.size = 2 ∧ p1.size = 1 ∧ p2.size = 1 ∧ 0 < p3.size ∧ True := hg
  have hcs : p0.size + p1.size + p2.size + p3.size ≤ 2000 := by
    rw [hd] at hs
    simp only [cat, app_size] at hs
    have : (⟨#[]⟩ : ByteArray).size = 0 := rfl
    omega
  have e0 : (⟨(bytesB (numB p0.data.toList) 2).toArray⟩ : ByteArray) = p0 := by
    apply ba_ext
    have := bytesB_num p0.data.toList (by rw [size_list]; omega)
    rw [size_list, show p0.size = 2 by omega] at this
    exact this
  have e1 : (⟨(bytesB (numB p1.data.toList) 1).toArray⟩ : ByteArray) = p1 := by
    apply ba_ext
    have := bytesB_num p1.data.toList (by rw [size_list]; omega)
    rw [size_list, show p1.size = 1 by omega] at this
    exact this
  have e2 : (⟨(bytesB (numB p2.data.toList) 1).toArray⟩ : ByteArray) = p2 := by
    apply ba_ext
    have := bytesB_num p2.data.toList (by rw [size_list]; omega)
    rw [size_list, show p2.size = 1 by omega] at this
    exact this
  have l0 : numB p0.data.toList < 65536 := by
    have := numB_lt p0.data.toList
    rw [size_list, show p0.size = 2 by omega] at this
    simpa using this
  have l1 : numB p1.data.toList < 256 := by
    have := numB_lt p1.data.toList
    rw [size_list, show p1.size = 1 by omega] at this
    simpa using this
  have l2 : numB p2.data.toList < 256 := by
    have := numB_lt p2.data.toList
    rw [size_list, show p2.size = 1 by omega] at this
    simpa using this
  refine ⟨⟨numB p0.data.toList, numB p1.data.toList, numB p2.data.toList, p3, rfl, ⟨l0, l1, l2, by omega⟩, fun _ => ?_, .inl rfl⟩, by omega, by omega, by omega, by omega⟩
  rw [e0, e1, e2, joinR, ← hd, h]
  exact if_pos rfl
end Go.Proofs.YtaiakpigljcjbaaGreatDoor

/- Lists of types as bytes: windows of bits. Nothing here speaks of the program. -/
namespace Go.Proofs.YtaiakpigljcjbaaGreatDoor
set_option linter.unusedVariables false
open Go.RowKit

theorem bit_tb (b : List UInt8) (n : Nat) : bitAt b n = (b.getD (n / 8) 0).toNat.testBit (7 - n % 8) := by
  rw [bitAt, Nat.testBit_eq_decide_div_mod_eq, Bool.eq_iff_iff, beq_iff_eq, decide_eq_true_iff]
theorem getD_far (b : List UInt8) (j : Nat) (h : b.length ≤ j) : b.getD j 0 = 0 := by
  rw [List.getD_eq_getElem?_getD, List.getElem?_eq_none h]; rfl
theorem bit_far (b : List UInt8) (n : Nat) (h : b.length ≤ n / 8) : bitAt b n = false := by
  rw [bit_tb, getD_far b _ h]
  exact Nat.zero_testBit _

theorem filter_low (p : Nat → Bool) (k : Nat) (h : ∀ i, k ≤ i → p i = false) : ∀ n, k ≤ n → (List.range n).filter p = (List.range k).filter p := by
  intro n hn
  obtain ⟨j, rfl⟩ : ∃ j, n = k + j := ⟨n - k, by omega⟩
  clear hn
  induction j with
  | zero => rfl
  | succ j ih => rw [show k + (j + 1) = (k + j) + 1 by omega, List.range_succ, List.filter_append, ih]; simp [h (k + j) (by omega)]
theorem filter_one (p : Nat → Bool) (k : Nat) (hk : p k = true) (h : ∀ i, k < i → p i = false) (n : Nat) (hn : k < n) : (List.range n).filter p = (List.range k).filter p ++ [k] := by
  rw [filter_low p (k + 1) (fun i hi => h i (by omega)) n (by omega), List.range_succ, List.filter_append]
  simp [hk]
theorem bitsL_all (w : Nat) (b : List UInt8) (h : b.length ≤ 32) : bitsL w b (8 * b.length) = bitsL w b 256 := by
  unfold bitsL
  rw [filter_low _ (8 * b.length) (fun i hi => bit_far b i (by omega)) 256 (by omega)]
theorem mem_bits {w : Nat} {b : List UInt8} {n x : Nat} : x ∈ bitsL w b n ↔ ∃ i, i < n ∧ bitAt b i = true ∧ x = w * 256 + i := by
  unfold bitsL
  simp only [List.mem_map, List.mem_filter, List.mem_range]
  constructor
  · rintro ⟨i, ⟨h1, h2⟩, rfl⟩; exact ⟨i, h1, h2, rfl⟩
  · rintro ⟨i, h1, h2, rfl⟩; exact ⟨i, ⟨h1, h2⟩, rfl⟩

/-- a bit more. -/
def padB (b : List UInt8) (k : Nat) : List UInt8 := b ++ List.replicate (k / 8 + 1 - b.length) 0
def setB (b : List UInt8) (k : Nat) : List UInt8 := (padB b k).set (k / 8) (UInt8.ofNat ((b.getD (k / 8) 0).toNat ||| 2 ^ (7 - k % 8)))
theorem padB_len (b : List UInt8) (k : Nat) : (padB b k).length = max b.length (k / 8 + 1) := by simp [padB]; omega
theorem setB_len (b : List UInt8) (k : Nat) : (setB b k).length = max b.length (k / 8 + 1) := by simp [setB, padB_len]
theorem padB_get (b : List UInt8) (k j : Nat) : (padB b k).getD j 0 = b.getD j 0 := by
  unfold padB
  rw [List.getD_eq_getElem?_getD, List.getD_eq_getElem?_getD, List.getElem?_append]
  split
  · rfl
  · rename_i h
    rw [List.getElem?_eq_none (l := b) (by omega), List.getElem?_replicate]
    split <;> rfl
theorem or_lt (a k : Nat) (h : a < 256) : a ||| 2 ^ (7 - k % 8) < 256 := by
  have : 2 ^ (7 - k % 8) < 2 ^ 8 := Nat.pow_lt_pow_right (by omega) (by omega)
  exact Nat.or_lt_two_pow (n := 8) h this
theorem setB_get (b : List UInt8) (k j : Nat) : ((setB b k).getD j 0).toNat = if j = k / 8 then (b.getD j 0).toNat ||| 2 ^ (7 - k % 8) else (b.getD j 0).toNat := by
  unfold setB
  rw [List.getD_eq_getElem?_getD, List.getElem?_set]
  have hu := (b.getD (k / 8) 0).toNat_lt
  by_cases h : k / 8 = j
  · rw [if_pos h, if_pos h.symm, if_pos (by rw [padB_len]; omega)]
    subst h
    rw [Option.getD_some, UInt8.toNat_ofNat', Nat.mod_eq_of_lt (or_lt _ k (by omega))]
  · rw [if_neg h, if_neg (fun e => h e.symm), ← List.getD_eq_getElem?_getD, padB_get]
theorem setB_bit (b : List UInt8) (k i : Nat) : bitAt (setB b k) i = (bitAt b i || decide (i = k)) := by
  rw [bit_tb, bit_tb, setB_get]
  by_cases h : i / 8 = k / 8
  · rw [if_pos h, Nat.testBit_or, Nat.testBit_two_pow]
    congr 1
    by_cases e : i = k
    · subst e; simp
    · have : ¬ (7 - k % 8 = 7 - i % 8) := by omega
      simp [e, this]
  · rw [if_neg h]
    have : ¬ i = k := fun e => h (by rw [e])
    simp [this]

theorem last_bit {b : List UInt8} (h : lastOk b = true) : ∃ i, b.length = i / 8 + 1 ∧ bitAt b i = true := by
  unfold lastOk at h
  cases hl : b.getLast? with
  | none => rw [hl] at h; cases h
  | some c =>
    rw [hl] at h
    simp only [bne_iff_ne, ne_eq] at h
    have hb0 : b ≠ [] := fun e => by rw [e] at hl; cases hl
    have hlen : 0 < b.length := List.length_pos_iff.2 hb0
    have hc : b.getD (b.length - 1) 0 = c := by
      rw [List.getD_eq_getElem?_getD, ← List.getLast?_eq_getElem?, hl]; rfl
    have hcn : c.toNat ≠ 0 := fun e => h (UInt8.toNat_inj.1 (by rw [e]; rfl))
    obtain ⟨t, ht⟩ := Nat.exists_testBit_of_ne_zero hcn
    have ht8 : t < 8 := by
      apply Decidable.byContradiction
      intro hge
      have := c.toNat_lt
      have h2 : c.toNat < 2 ^ t := Nat.lt_of_lt_of_le (by omega : c.toNat < 2 ^ 8) (Nat.pow_le_pow_right (by omega) (by omega))
      rw [Nat.testBit_lt_two_pow h2] at ht
      cases ht
    refine ⟨8 * (b.length - 1) + (7 - t), by omega, ?_⟩
    rw [bit_tb, show (8 * (b.length - 1) + (7 - t)) / 8 = b.length - 1 by omega, show 7 - (8 * (b.length - 1) + (7 - t)) % 8 = t by omega, hc]
    exact ht
theorem bits_ext {b c : List UInt8} (hb : lastOk b = true) (hc : lastOk c = true) (h : ∀ i, bitAt b i = bitAt c i) : b = c := by
  have hg : ∀ j, b.getD j 0 = c.getD j 0 := by
    intro j
    apply UInt8.toNat_inj.1
    apply Nat.eq_of_testBit_eq
    intro t
    by_cases ht : t < 8
    · have := h (8 * j + (7 - t))
      rw [bit_tb, bit_tb, show (8 * j + (7 - t)) / 8 = j by omega, show 7 - (8 * j + (7 - t)) % 8 = t by omega] at this
      exact this
    · have h1 := (b.getD j 0).toNat_lt
      have h2 := (c.getD j 0).toNat_lt
      have hp : 2 ^ 8 ≤ 2 ^ t := Nat.pow_le_pow_right (by omega) (by omega)
      rw [Nat.testBit_lt_two_pow (by omega), Nat.testBit_lt_two_pow (by omega)]
  obtain ⟨i, hi, hbi⟩ := last_bit hb
  obtain ⟨j, hj, hcj⟩ := last_bit hc
  have l1 : ¬ c.length ≤ i / 8 := fun hl => by rw [h i, bit_far c i hl] at hbi; cases hbi
  have l2 : ¬ b.length ≤ j / 8 := fun hl => by rw [← h j, bit_far b j hl] at hcj; cases hcj
  apply List.ext_getElem (by omega)
  intro n h1 h2
  have := hg n
  rwa [List.getD_eq_getElem?_getD, List.getD_eq_getElem?_getD, List.getElem?_eq_getElem h1, List.getElem?_eq_getElem h2] at this
theorem setB_last (b : List UInt8) (k : Nat) (h : b.length ≤ k / 8 + 1) : lastOk (setB b k) = true := by
  have hl := setB_len b k
  have hg := setB_get b k (k / 8)
  rw [if_pos rfl] at hg
  have hne : ((setB b k).getD (k / 8) 0).toNat ≠ 0 := by
    rw [hg]
    intro e
    have := congrArg (fun x => x.testBit (7 - k % 8)) e
    simp [Nat.testBit_or] at this
  unfold lastOk
  rw [List.getLast?_eq_getElem?, hl, show max b.length (k / 8 + 1) - 1 = k / 8 by omega, List.getElem?_eq_getElem (by omega)]
  rw [List.getD_eq_getElem?_getD, List.getElem?_eq_getElem (by omega), Option.getD_some] at hne
  simp only [bne_iff_ne, ne_eq]
  intro e
  rw [e] at hne
  exact hne rfl
theorem setB_bits (w : Nat) (b : List UInt8) (k : Nat) (hk : k < 256) (h : ∀ i, bitAt b i = true → i < k) : bitsL w (setB b k) 256 = bitsL w b 256 ++ [w * 256 + k] := by
  have hb : ∀ i, k ≤ i → bitAt b i = false := fun i hi => by
    cases e : bitAt b i with
    | false => rfl
    | true => have := h i e; omega
  unfold bitsL
  rw [filter_one (fun i => bitAt (setB b k) i) k (by rw [setB_bit]; simp) (fun i hi => by rw [setB_bit, hb i (by omega)]; simp; omega) 256 hk]
  rw [filter_low (fun i => bitAt b i) k hb 256 (by omega), List.map_append]
  congr 2
  apply List.filter_congr
  intro i hi
  rw [setB_bit]
  have : ¬ i = k := by have := List.mem_range.1 hi; omega
  simp [this]

/-! ### windows -/
abbrev Win := Nat × List UInt8
def encW : List Win → List UInt8
  | [] => []
  | p :: r => UInt8.ofNat p.1 :: UInt8.ofNat p.2.length :: (p.2 ++ encW r)
def OkW : Int → List Win → Prop
  | _, [] => True
  | last, p :: r => last < (p.1 : Int) ∧ p.1 ≤ 255 ∧ p.2.length ≤ 32 ∧ lastOk p.2 = true ∧ OkW p.1 r
def tysW : List Win → List Nat
  | [] => []
  | p :: r => bitsL p.1 p.2 256 ++ tysW r
theorem encW_app : ∀ (a b : List Win), encW (a ++ b) = encW a ++ encW b
  | [], b => rfl
  | p :: a, b => by simp [encW, encW_app a b]
theorem tysW_app : ∀ (a b : List Win), tysW (a ++ b) = tysW a ++ tysW b
  | [], b => rfl
  | p :: a, b => by simp [tysW, tysW_app a b]
theorem lastOk_ne {b : List UInt8} (h : lastOk b = true) : 1 ≤ b.length := by
  obtain ⟨i, hi, _⟩ := last_bit h
  omega

theorem ty_enc : ∀ (ws : List Win) (last : Int) (n : Nat), OkW last ws → (encW ws).length < n → tyGo n last ⟨(encW ws).toArray⟩ = some (tysW ws)
  | [], last, 0, _, h => by simp [encW] at h
  | [], last, n + 1, _, _ => by rw [tyGo, dif_neg (by rw [ba_size]; simp [encW])]; rfl
  | p :: r, last, 0, _, h => by simp at h
  | p :: r, last, n + 1, ⟨h1, h2, h3, h4, h5⟩, h => by
    have h6 := lastOk_ne h4
    have e : encW (p :: r) = UInt8.ofNat p.1 :: UInt8.ofNat p.2.length :: (p.2 ++ encW r) := rfl
    have h0 : 0 < (⟨(encW (p :: r)).toArray⟩ : ByteArray).size := by rw [ba_size, e]; simp
    have hu : (UInt8.ofNat p.2.length).toNat = p.2.length := by rw [UInt8.toNat_ofNat']; omega
    have hw : (UInt8.ofNat p.1).toNat = p.1 := by rw [UInt8.toNat_ofNat']; omega
    have hg : (⟨(encW (p :: r)).toArray⟩ : ByteArray)[0] = UInt8.ofNat p.1 := by rw [← getElem_list _ _ h0]; rfl
    have x1 : (⟨(encW (p :: r)).toArray⟩ : ByteArray).extract 1 (⟨(encW (p :: r)).toArray⟩ : ByteArray).size = ⟨(UInt8.ofNat p.2.length :: (p.2 ++ encW r)).toArray⟩ := by
      apply ba_ext
      rw [Lib.extract_data, ba_toList, e, ba_size, ba_toList, List.drop_succ_cons, List.drop_zero]
      exact List.take_of_length_le (by simp)
    have x2 : ((⟨(encW (p :: r)).toArray⟩ : ByteArray).extract 2 (1 + p.2.length + 1)).data.toList = p.2 := by
      rw [Lib.extract_data, ba_toList, e, List.drop_succ_cons, List.drop_succ_cons, List.drop_zero, show 1 + p.2.length + 1 - 2 = p.2.length by omega, List.take_left' rfl]
    have x3 : (⟨(encW (p :: r)).toArray⟩ : ByteArray).extract (1 + p.2.length + 1) (⟨(encW (p :: r)).toArray⟩ : ByteArray).size = ⟨(encW r).toArray⟩ := by
      apply ba_ext
      rw [Lib.extract_data, ba_toList, e, ba_size, ba_toList, show 1 + p.2.length + 1 = p.2.length + 1 + 1 by omega, List.drop_succ_cons, List.drop_succ_cons, List.drop_left' rfl]
      exact List.take_of_length_le (by simp)
    have ih := ty_enc r p.1 n h5 (by rw [e] at h; simp at h; omega)
    rw [tyGo, dif_pos h0, x1, cnt_cons, hu, if_pos (by simp)]
    simp only
    rw [hg, hw, x2, x3, if_pos ⟨h1, by omega, h4⟩, ih]
    simp only [Option.map_some, tysW]
    rw [show 1 + p.2.length - 1 = p.2.length by omega, bitsL_all _ _ h3]
theorem ty_dec : ∀ (n : Nat) (last : Int) (s : ByteArray) (l : List Nat), tyGo n last s = some l → ∃ ws, OkW last ws ∧ s = ⟨(encW ws).toArray⟩ ∧ l = tysW ws
  | 0, last, s, l, h => by cases h
  | n + 1, last, s, l, h => by
    rw [tyGo] at h
    split at h
    · rename_i h0
      cases hc : cntK (s.extract 1 s.size) with
      | none => rw [hc] at h; cases h
      | some m =>
        rw [hc] at h
        simp only at h
        split at h
        · rename_i hcond
          obtain ⟨h1, h2, h3⟩ := hcond
          rw [Option.map_eq_some_iff] at h
          obtain ⟨q, hq, rfl⟩ := h
          obtain ⟨ws, hok, hs, rfl⟩ := ty_dec n _ _ q hq
          have hm := cnt_le hc
          have hz : (s.extract 1 s.size).size = s.size - 1 := by rw [ByteArray.size_extract]; omega
          have hbl : (s.extract 2 (m + 1)).data.toList.length = m - 1 := by rw [size_list, ByteArray.size_extract]; omega
          have hu := s[0].toNat_lt
          refine ⟨(s[0].toNat, (s.extract 2 (m + 1)).data.toList) :: ws, ⟨h1, by omega, by rw [hbl]; omega, h3, hok⟩, ?_, ?_⟩
          · obtain ⟨b, r, hbr, hb, hmb⟩ := cnt_pos hc
            apply ba_ext
            rw [ba_toList, encW, hbl, UInt8.ofNat_toNat]
            have d0 : s.data.toList = s[0] :: s.data.toList.drop 1 := by
              rw [← getElem_list s 0 h0]
              exact (List.drop_eq_getElem_cons (i := 0) (by rw [size_list]; exact h0))
            have d1 : s.data.toList.drop 1 = b :: r := by
              have := congrArg (fun x : ByteArray => x.data.toList) hbr
              simp only [Lib.extract_data] at this
              rw [List.take_of_length_le (by rw [List.length_drop, size_list]; omega)] at this
              exact this
            have hmb' : UInt8.ofNat (m - 1) = b := by rw [hmb, Nat.add_sub_cancel_left, UInt8.ofNat_toNat]
            have d2 : s.data.toList.drop 2 = r := by
              rw [show (2 : Nat) = 1 + 1 by omega, ← List.drop_drop, d1]; rfl
            have d3 : (s.extract 2 (m + 1)).data.toList = r.take (m - 1) := by
              rw [Lib.extract_data, d2, show m + 1 - 2 = m - 1 by omega]
            have d4 : encW ws = r.drop (m - 1) := by
              have := congrArg (fun x : ByteArray => x.data.toList) hs
              simp only [Lib.extract_data] at this
              rw [List.take_of_length_le (by rw [List.length_drop, size_list]; omega), show m + 1 = 2 + (m - 1) by omega, ← List.drop_drop, d2] at this
              exact this.symm
            rw [hmb', d3, d4, List.take_append_drop, ← d1, ← d0]
          · rw [tysW, ← bitsL_all _ _ (by simp only; rw [hbl]; omega), hbl]
        · cases h
    · rename_i h0
      cases h
      exact ⟨[], trivial, ba_empty s (by omega), rfl⟩

/-! ### uniqueness -/
theorem ty_mem : ∀ {ws : List Win} {last : Int} {x : Nat}, OkW last ws → x ∈ tysW ws → last < ((x / 256 : Nat) : Int) ∧ x ≤ 65535
  | [], _, _, _, h => by cases h
  | p :: r, last, x, ⟨h1, h2, h3, h4, h5⟩, h => by
    rw [tysW, List.mem_append] at h
    rcases h with h | h
    · obtain ⟨i, hi, _, rfl⟩ := mem_bits.1 h
      rw [show (p.1 * 256 + i) / 256 = p.1 by omega]
      exact ⟨h1, by omega⟩
    · have := ty_mem h5 h
      exact ⟨by omega, this.2⟩
theorem bits_head {w : Nat} {b : List UInt8} (h : lastOk b = true) (h3 : b.length ≤ 32) : ∃ x r, bitsL w b 256 = x :: r := by
  obtain ⟨i, hi, hb⟩ := last_bit h
  cases hl : bitsL w b 256 with
  | cons x r => exact ⟨x, r, rfl⟩
  | nil =>
    have : w * 256 + i ∈ bitsL w b 256 := mem_bits.2 ⟨i, by omega, hb, rfl⟩
    rw [hl] at this
    cases this
theorem bits_filter {w : Nat} {b : List UInt8} {r : List Win} {last : Int} (h : OkW (w : Int) r) : (bitsL w b 256 ++ tysW r).filter (fun x => decide (x / 256 = w)) = bitsL w b 256 ∧ (bitsL w b 256 ++ tysW r).filter (fun x => !decide (x / 256 = w)) = tysW r := by
  have ha : ∀ x ∈ bitsL w b 256, x / 256 = w := fun x hx => by
    obtain ⟨i, hi, _, rfl⟩ := mem_bits.1 hx
    omega
  have hb : ∀ x ∈ tysW r, ¬ x / 256 = w := fun x hx => by
    have := (ty_mem h hx).1
    omega
  rw [List.filter_append, List.filter_append]
  constructor
  · rw [List.filter_eq_self.2 (fun x hx => by simp [ha x hx]), List.filter_eq_nil_iff.2 (fun x hx => by simp [hb x hx]), List.append_nil]
  · rw [List.filter_eq_nil_iff.2 (fun x hx => by simp [ha x hx]), List.filter_eq_self.2 (fun x hx => by simp [hb x hx]), List.nil_append]
theorem bits_inj {w : Nat} {b c : List UInt8} (hb : lastOk b = true) (hc : lastOk c = true) (lb : b.length ≤ 32) (lc : c.length ≤ 32) (h : bitsL w b 256 = bitsL w c 256) : b = c := by
  apply bits_ext hb hc
  have key : ∀ (b c : List UInt8), b.length ≤ 32 → bitsL w b 256 = bitsL w c 256 → ∀ i, bitAt b i = true → bitAt c i = true := by
    intro b c lb h i hi
    have hl : i < 256 := by
      apply Decidable.byContradiction
      intro hge
      rw [bit_far b i (by omega)] at hi
      cases hi
    have : w * 256 + i ∈ bitsL w c 256 := by rw [← h]; exact mem_bits.2 ⟨i, hl, hi, rfl⟩
    obtain ⟨j, _, hj, e⟩ := mem_bits.1 this
    obtain rfl : i = j := by omega
    exact hj
  intro i
  cases h1 : bitAt b i with
  | true => rw [key b c lb h i h1]
  | false =>
    cases h2 : bitAt c i with
    | false => rfl
    | true => rw [key c b lc h.symm i h2] at h1; cases h1
theorem win_inj : ∀ (a b : List Win) (la lb : Int), OkW la a → OkW lb b → tysW a = tysW b → a = b
  | [], [], _, _, _, _, _ => rfl
  | [], q :: s, _, _, _, ⟨_, _, h3, h4, _⟩, h => by
    obtain ⟨x, r, e⟩ := bits_head (w := q.1) h4 h3
    rw [tysW, tysW, e] at h
    cases h
  | p :: r, [], _, _, ⟨_, _, h3, h4, _⟩, _, h => by
    obtain ⟨x, r, e⟩ := bits_head (w := p.1) h4 h3
    rw [tysW, tysW, e] at h
    cases h
  | p :: r, q :: s, la, lb, ⟨h1, h2, h3, h4, h5⟩, ⟨k1, k2, k3, k4, k5⟩, h => by
    rw [tysW, tysW] at h
    have hw : p.1 = q.1 := by
      obtain ⟨x, r', e⟩ := bits_head (w := p.1) h4 h3
      obtain ⟨y, s', f⟩ := bits_head (w := q.1) k4 k3
      have hx : x ∈ bitsL p.1 p.2 256 := by rw [e]; simp
      have hy : y ∈ bitsL q.1 q.2 256 := by rw [f]; simp
      rw [e, f] at h
      obtain rfl : x = y := by simp at h; exact h.1
      obtain ⟨i, hi, _, rfl⟩ := mem_bits.1 hx
      obtain ⟨j, hj, _, e'⟩ := mem_bits.1 hy
      omega
    obtain ⟨w, b⟩ := p
    obtain ⟨w', c⟩ := q
    simp only at hw h h3 h4 h5 k3 k4 k5
    subst hw
    obtain ⟨f1, f2⟩ := bits_filter (b := b) (last := la) h5
    obtain ⟨g1, g2⟩ := bits_filter (b := c) (last := la) k5
    rw [h] at f1 f2
    have hbc := bits_inj h4 k4 h3 k3 (f1.symm.trans g1)
    subst hbc
    rw [win_inj r s _ _ h5 k5 (f2.symm.trans g2)]

/-! ### one type more -/
def addT (ws : List Win) (k : Nat) : List Win := match ws.getLast? with
  | some p => if p.1 = k / 256 then ws.dropLast ++ [(p.1, setB p.2 (k % 256))] else ws ++ [(k / 256, setB [] (k % 256))]
  | none => [(k / 256, setB [] (k % 256))]
theorem okW_snoc : ∀ (ws : List Win) (last : Int) (p : Win), OkW last ws → (∀ q ∈ ws, q.1 < p.1) → last < (p.1 : Int) → p.1 ≤ 255 → p.2.length ≤ 32 → lastOk p.2 = true → OkW last (ws ++ [p])
  | [], last, p, _, _, h1, h2, h3, h4 => ⟨h1, h2, h3, h4, trivial⟩
  | q :: r, last, p, ⟨k1, k2, k3, k4, k5⟩, hq, h1, h2, h3, h4 => ⟨k1, k2, k3, k4, okW_snoc r q.1 p k5 (fun x hx => hq x (by simp [hx])) (by have := hq q (by simp); omega) h2 h3 h4⟩
theorem okW_parts : ∀ (ws : List Win) (last : Int) (p : Win), OkW last (ws ++ [p]) → OkW last ws ∧ (∀ q ∈ ws, q.1 < p.1) ∧ last < (p.1 : Int) ∧ p.1 ≤ 255 ∧ p.2.length ≤ 32 ∧ lastOk p.2 = true
  | [], last, p, ⟨h1, h2, h3, h4, _⟩ => ⟨trivial, by simp, h1, h2, h3, h4⟩
  | q :: r, last, p, ⟨k1, k2, k3, k4, k5⟩ => by
    obtain ⟨a1, a2, a3, a4, a5, a6⟩ := okW_parts r q.1 p k5
    refine ⟨⟨k1, k2, k3, k4, a1⟩, fun x hx => ?_, by omega, a4, a5, a6⟩
    rcases List.mem_cons.1 hx with rfl | hx
    · omega
    · exact a2 x hx
theorem setB_nil_len (k : Nat) (h : k < 256) : (setB [] k).length ≤ 32 := by rw [setB_len]; simp; omega
theorem new_ok (k : Nat) (hk : k ≤ 65535) : lastOk (setB [] (k % 256)) = true ∧ bitsL (k / 256) (setB [] (k % 256)) 256 = [k] := by
  refine ⟨setB_last [] _ (by simp), ?_⟩
  rw [setB_bits (k / 256) [] (k % 256) (by omega) (fun i hi => by rw [bit_far [] i (by simp)] at hi; cases hi)]
  have : bitsL (k / 256) [] 256 = [] := by
    unfold bitsL
    rw [filter_low _ 0 (fun i _ => bit_far [] i (by simp)) 256 (by omega)]
    rfl
  rw [this, List.nil_append, show k / 256 * 256 + k % 256 = k by omega]
theorem addT_ok (ws : List Win) (k : Nat) (hk : k ≤ 65535) (h : OkW (-1) ws) (hl : ∀ x ∈ tysW ws, x < k) : OkW (-1) (addT ws k) ∧ tysW (addT ws k) = tysW ws ++ [k] := by
  obtain ⟨n1, n2⟩ := new_ok k hk
  rcases List.eq_nil_or_concat ws with rfl | ⟨r, p, rfl⟩
  · refine ⟨⟨by simp only; omega, by simp only; omega, setB_nil_len _ (by omega), n1, trivial⟩, ?_⟩
    show bitsL (k / 256) (setB [] (k % 256)) 256 ++ [] = [k]
    rw [n2, List.append_nil]
  · rw [List.concat_eq_append] at h hl ⊢
    obtain ⟨a1, a2, a3, a4, a5, a6⟩ := okW_parts r _ p h
    have hbit : ∀ i, bitAt p.2 i = true → p.1 * 256 + i < k := fun i hi => by
      have hi2 : i < 256 := by
        apply Decidable.byContradiction
        intro hge
        rw [bit_far p.2 i (by omega)] at hi
        cases hi
      apply hl
      rw [tysW_app, List.mem_append]
      right
      rw [tysW, tysW, List.append_nil]
      exact mem_bits.2 ⟨i, hi2, hi, rfl⟩
    obtain ⟨i, hi, hb⟩ := last_bit a6
    have hik := hbit i hb
    unfold addT
    rw [List.getLast?_concat]
    simp only
    split
    · rename_i hw
      rw [List.dropLast_concat]
      have hkm : ∀ j, bitAt p.2 j = true → j < k % 256 := fun j hj => by have := hbit j hj; omega
      have hm := hkm i hb
      refine ⟨okW_snoc r _ _ a1 a2 a3 a4 (by simp only; rw [setB_len]; omega) (setB_last _ _ (by omega)), ?_⟩
      rw [tysW_app, tysW_app, List.append_assoc]
      congr 1
      simp only [tysW, List.append_nil]
      rw [setB_bits p.1 p.2 (k % 256) (by omega) hkm, show p.1 * 256 + k % 256 = k by omega]
    · rename_i hw
      refine ⟨okW_snoc _ _ _ h (fun q hq => ?_) (by simp only; omega) (by simp only; omega) (setB_nil_len _ (by omega)) n1, ?_⟩
      · simp only
        rcases List.mem_append.1 hq with hq | hq
        · have := a2 q hq
          omega
        · simp only [List.mem_singleton] at hq
          subst hq
          omega
      · rw [tysW_app (r ++ [p])]
        congr 1
        show bitsL (k / 256) (setB [] (k % 256)) 256 ++ [] = [k]
        rw [n2, List.append_nil]
/-- types that rise. -/
def Rise : Int → List Nat → Prop
  | _, [] => True
  | last, k :: r => last < (k : Int) ∧ k ≤ 65535 ∧ Rise k r
theorem addAll_ok : ∀ (l : List Nat) (ws : List Win) (last : Int), OkW (-1) ws → (∀ x ∈ tysW ws, (x : Int) ≤ last) → Rise last l → OkW (-1) (l.foldl addT ws) ∧ tysW (l.foldl addT ws) = tysW ws ++ l
  | [], ws, last, h, _, _ => ⟨h, by simp⟩
  | k :: r, ws, last, h, hl, ⟨h1, h2, h3⟩ => by
    obtain ⟨a1, a2⟩ := addT_ok ws k h2 h (fun x hx => by have := hl x hx; omega)
    obtain ⟨b1, b2⟩ := addAll_ok r (addT ws k) k a1 (fun x hx => by
      rw [a2, List.mem_append] at hx
      rcases hx with hx | hx
      · have := hl x hx; omega
      · simp only [List.mem_singleton] at hx; omega) h3
    exact ⟨b1, by rw [List.foldl_cons, b2, a2]; simp⟩
theorem rise_of : ∀ (l : List Nat) (last : Int), l.Pairwise (· < ·) → (∀ x ∈ l, last < (x : Int) ∧ x ≤ 65535) → Rise last l
  | [], _, _, _ => trivial
  | k :: r, last, hp, hm => by
    have hk := hm k (by simp)
    rw [List.pairwise_cons] at hp
    exact ⟨hk.1, hk.2, rise_of r k hp.2 (fun x hx => ⟨by have := hp.1 x hx; omega, (hm x (by simp [hx])).2⟩)⟩
theorem bits_pw (w : Nat) (b : List UInt8) (n : Nat) : (bitsL w b n).Pairwise (· < ·) := by
  unfold bitsL
  refine List.Pairwise.map _ (fun a b (h : a < b) => by omega) (List.Pairwise.filter _ List.pairwise_lt_range)
theorem ty_pw : ∀ (ws : List Win) (last : Int), OkW last ws → (tysW ws).Pairwise (· < ·)
  | [], _, _ => List.Pairwise.nil
  | p :: r, last, ⟨h1, h2, h3, h4, h5⟩ => by
    rw [tysW, List.pairwise_append]
    refine ⟨bits_pw _ _ _, ty_pw r _ h5, fun a ha b hb => ?_⟩
    obtain ⟨i, hi, _, rfl⟩ := mem_bits.1 ha
    have := (ty_mem h5 hb).1
    omega

/-- a list of types as bytes. -/
def encT (l : List Nat) : List UInt8 := encW (l.foldl addT [])
/-- types that were read rise, and are put down as they were. -/
theorem typesR_back {s : ByteArray} {l : List Nat} (h : typesR s = some l) : Rise (-1) l ∧ s = ⟨(encT l).toArray⟩ := by
  obtain ⟨ws, hok, hs, hl⟩ := ty_dec _ _ _ _ h
  have hr : Rise (-1) l := by
    rw [hl]
    exact rise_of _ _ (ty_pw ws _ hok) (fun x hx => ⟨by have := (ty_mem hok hx).1; omega, (ty_mem hok hx).2⟩)
  refine ⟨hr, ?_⟩
  obtain ⟨a1, a2⟩ := addAll_ok l [] (-1) trivial (by simp [tysW]) hr
  have := win_inj _ _ _ _ a1 hok (by rw [a2, ← hl]; rfl)
  rw [encT, this]
  exact hs
/-- types that rise are read as they are. -/
theorem typesR_enc {l : List Nat} (h : Rise (-1) l) : typesR ⟨(encT l).toArray⟩ = some l := by
  obtain ⟨a1, a2⟩ := addAll_ok l [] (-1) trivial (by simp [tysW]) h
  unfold typesR encT
  rw [ty_enc _ _ _ a1 (by rw [ba_size]; omega), a2]
  rfl
end Go.Proofs.YtaiakpigljcjbaaGreatDoor
