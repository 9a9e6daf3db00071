/- Layer 13: numbers told in hex. -/
import Derived.Test.YtpognbkdafnfjaaDoorAcFm
namespace Go.Proofs.YtpognbkdafnfjaaDoor
set_option linter.unusedVariables false
open Go.RowKit Go.Sort

set_option maxRecDepth 100000 in
theorem tz_in (w : World) (hG : AG w) : Calls Tryd.prog 59 #[.int .u64 16] w fun e w' => e = .returned (.int .i64 4) ∧ w' = w := by
  have H := Hid.mk (tz64_in w hG)
  clear hG
  go_enter Tryd.func59, Tryd.ntmps59
  go_wp2_with fail
  refine H.out.mono ?_
  rintro e w' ⟨rfl, rfl⟩
  go_wp2
  go_ret
  exact ⟨rfl, rfl⟩
theorem hbp : bits BinOp.and IntKind.i64 16 15 = 0 := by kernel_rfl
set_option maxRecDepth 100000 in
theorem ispow_in (w : World) : Calls Tryd.prog 58 #[.int .i64 16] w fun e w' => e = .returned (.bool true) ∧ w' = w := by
  have hb := hbp
  go_enter Tryd.func58, Tryd.ntmps58
  go_wp2
  go_ret
  exact ⟨rfl, rfl⟩
def bv (l : List UInt8) : List Value := l.map fun b => .int .u8 (b.toNat : Int)
def z65 (k : Nat) (L : List UInt8) : Array Value := (List.replicate (65 - k) (Value.int .u8 0) ++ bv L).toArray
theorem z65_size {k : Nat} {L : List UInt8} (hk : k ≤ 65) (hL : L.length = k) : (z65 k L).size = 65 := by simp [z65, bv]; omega
theorem z65_zero {k : Nat} {L : List UInt8} (hk : k < 65) : (z65 k L)[64 - k]? = some (.int .u8 0) := by
  unfold z65
  rw [List.getElem?_toArray, List.getElem?_append_left (by simp; omega), List.getElem?_replicate, if_pos (by omega)]
theorem z65_set {k : Nat} {L : List UInt8} (hk : k < 65) (c : UInt8) : (z65 k L).setIfInBounds (64 - k) (.int .u8 (c.toNat : Int)) = z65 (k + 1) (c :: L) := by
  unfold z65
  rw [List.setIfInBounds_toArray, List.set_append, if_pos (by simp; omega)]
  have : (List.replicate (65 - k) (Value.int .u8 0)).set (64 - k) (.int .u8 (c.toNat : Int)) = List.replicate (65 - (k + 1)) (Value.int .u8 0) ++ [.int .u8 (c.toNat : Int)] := by
    obtain ⟨n, hn⟩ : ∃ n, 65 - k = n + 1 := ⟨64 - k, by omega⟩
    rw [hn, show 64 - k = n by omega, show 65 - (k + 1) = n by omega, List.replicate_succ', List.set_append, if_neg (by simp)]
    simp
  rw [this, List.append_assoc]
  rfl
/-- what the digits are made of: those that are there, and the number that is left. -/
structure Hx (u0 k u : Nat) (L : List UInt8) : Prop where
  le : k ≤ 3
  len : L.length = k
  eq : dgs 16 3 u0 = dgs 16 (3 - k) u ++ L
  lt : u < 16 ^ (4 - k)
theorem Hx.start {u0 : Nat} (h : u0 < 65536) : Hx u0 0 u0 [] := ⟨by omega, rfl, by simp, by simpa using h⟩
theorem Hx.step {u0 k u : Nat} {L : List UInt8} (h : Hx u0 k u L) (hu : 16 ≤ u) : Hx u0 (k + 1) (u / 16) (hexd (u % 16) :: L) := by
  have hk : k < 3 := by
    rcases Nat.lt_or_ge k 3 with h' | h'
    · exact h'
    · have := h.lt
      rw [show 4 - k = 1 by have := h.le; omega] at this
      omega
  refine ⟨by omega, by simp [h.len], ?_, ?_⟩
  · rw [h.eq, show 3 - k = (3 - (k + 1)) + 1 by omega, dgs, if_neg (by omega), List.append_assoc]
    rfl
  · have := h.lt
    rw [show 4 - k = (4 - (k + 1)) + 1 by omega, Nat.pow_succ] at this
    rw [Nat.div_lt_iff_lt_mul (by decide)]
    exact this
theorem Hx.stop {u0 k u : Nat} {L : List UInt8} (h : Hx u0 k u L) (hu : u < 16) : dgs 16 3 u0 = hexd u :: L := by
  rw [h.eq]
  cases hk : 3 - k with
  | zero => rfl
  | succ f => rw [dgs, if_pos hu]; rfl
def FbRel (w : World) (u0 : Nat) (u i : Value) (wr : World) : Prop :=
  ∃ (k n : Nat) (L : List UInt8), u = .int .u64 (n : Int) ∧ i = .int .i64 ((65 - k : Nat) : Int) ∧ Hx u0 k n L ∧ wr.heap[w.heap.size]? = some (.cells (z65 k L) 107 (0, 0)) ∧ Below w.heap.size w wr
abbrev dg36 : ByteArray := ⟨#[48, 49, 50, 51, 52, 53, 54, 55, 56, 57, 97, 98, 99, 100, 101, 102, 103, 104, 105, 106, 107, 108, 109, 110, 111, 112, 113, 114, 115, 116, 117, 118, 119, 120, 121, 122]⟩
theorem dg36_at : ∀ (n : Nat) (h : n < 16), dg36[n]'(by have : dg36.size = 36 := rfl; omega) = hexd n := by
  have : ∀ n : Fin 16, dg36[n.1]'(by have := n.2; have : dg36.size = 36 := rfl; omega) = hexd n.1 := by decide
  intro n h; exact this ⟨n, h⟩

set_option maxRecDepth 100000 in
set_option maxHeartbeats 4000000 in
theorem fbits_in (u0 : Nat) (hu : u0 < 65536) (w : World) (hG : AG w) :
    Calls Tryd.prog 48 #[.slice none 0 0, .int .u64 (u0 : Int), .int .i64 16, .bool false, .bool false] w fun e w' => e = .returned (.tuple #[.slice none 0 0, .string ⟨(dgs 16 3 u0).toArray⟩]) ∧ Below w.heap.size w w' := by
  have HI := Hid.mk ispow_in
  have HT : Hid (∀ o, Calls Tryd.prog 59 #[.int .u64 16] (w.alloc o) fun e w' => e = .returned (.int .i64 4) ∧ w' = w.alloc o) := fun o => tz_in _ (hG.below (by go_grown))
  have HX := Hid.mk (Hx.start hu)
  clear hG
  go_enter Tryd.func48, Tryd.ntmps48
  go_wp2_with fail
  refine (HI.out _).mono ?_
  rintro e w1 ⟨rfl, rfl⟩
  go_wp2_with fail
  refine (HT.out _).mono ?_
  rintro e w1 ⟨rfl, rfl⟩
  go_wp2
  go_loopw [1, 13] (fun u i wr => FbRel w u0 u i wr) (fun u _ _ => (intOf u).toNat)
  case atStart => exact ⟨0, u0, [], rfl, rfl, HX.out, heap_alloc_last _ _, by go_grown⟩
  case round =>
    obtain ⟨k, n, L, rfl, rfl, hx, hb, hbel⟩ := hrel
    have hk := hx.le
    have hc := cell_of_heap (i := 64 - k) hb (z65_zero (by omega))
    have hf : wr.frozen? ⟨w.heap.size, 64 - k, none⟩ = false := by
      unfold World.frozen?
      rw [show (⟨w.heap.size, 64 - k, none⟩ : Addr).block = w.heap.size from rfl, hb]
      simp
    have hi : (((65 - k : Nat) : Int) - 1) = ((64 - k : Nat) : Int) := by omega
    have hi1 : ((64 - k : Nat) : Int) < 65 := by omega
    by_cases h16 : 16 ≤ n
    · have hx2 := hx.step h16
      obtain ⟨r, hr⟩ : ∃ r, n % 16 = r := ⟨_, rfl⟩
      have hr16 : r < 16 := by omega
      have hand : bits BinOp.and IntKind.u64 (n : Int) 15 = (r : Int) := by
        have h64 : n < 2 ^ 64 := Nat.lt_of_lt_of_le hx.lt (Nat.le_trans (Nat.pow_le_pow_right (by decide) (show 4 - k ≤ 4 by omega)) (by decide))
        rw [show (15 : Int) = ((15 : Nat) : Int) from rfl, bits_and_u64 n 15 h64 (by decide), show (15 : Nat) = 2 ^ 4 - 1 from rfl, Nat.and_two_pow_sub_one_eq_mod]
        exact congrArg _ hr
      rw [hr] at hx2
      obtain ⟨c, hcc⟩ : ∃ c, hexd r = c := ⟨_, rfl⟩
      rw [hcc] at hx2
      have hdg : ∀ h, (dg36)[r]'h = c := fun h => (dg36_at r hr16).trans hcc
      have HE : Hid (FbRel w u0 (.int .u64 ((n / 16 : Nat) : Int)) (.int .i64 ((64 - k : Nat) : Int)) (wr.setCell ⟨w.heap.size, 64 - k, none⟩ (.int .u8 (c.toNat : Int)))) := by
        refine ⟨k + 1, n / 16, c :: L, rfl, by rw [show 65 - (k + 1) = 64 - k by omega], hx2, ?_, hbel.setCell (p := ⟨w.heap.size, 64 - k, none⟩) (Nat.le_refl _) _⟩
        have : (wr.setCell ⟨w.heap.size, 64 - k, none⟩ (.int .u8 (c.toNat : Int))).heap[w.heap.size]? = some (.cells ((z65 k L).setIfInBounds (64 - k) (.int .u8 (c.toNat : Int))) 107 (0, 0)) := by
          simp only [World.setCell, Array.getElem?_modify, if_true, hb]
          rfl
        rw [this, z65_set (by omega)]
      have hm : (intOf (Value.int IntKind.u64 ((n : Int) / 16))).toNat < (intOf (Value.int IntKind.u64 (n : Int))).toNat := by simp [intOf]; omega
      have HM := Hid.mk hm
      clear hx2 hr hcc hm
      go_wp2
      exact ⟨HE.out, HM.out⟩
    · have hx2 := hx.stop (by omega)
      have hn16 : n < 16 := by omega
      obtain ⟨c, hcc⟩ : ∃ c, hexd n = c := ⟨_, rfl⟩
      rw [hcc] at hx2
      have hdg : ∀ h, (dg36)[n]'h = c := fun h => (dg36_at n hn16).trans hcc
      have hLl := hx.len
      obtain ⟨W2, hW2⟩ : ∃ W2, wr.setCell ⟨w.heap.size, 64 - k, none⟩ (.int .u8 (c.toNat : Int)) = W2 := ⟨_, rfl⟩
      have hb2 : W2.heap[w.heap.size]? = some (.cells (z65 (k + 1) (c :: L)) 107 (0, 0)) := by
        rw [← hW2, ← z65_set (by omega)]
        simp only [World.setCell, Array.getElem?_modify, if_true, hb]
        rfl
      have HB2 : Hid (Below w.heap.size w W2) := by rw [← hW2]; exact hbel.setCell (p := ⟨w.heap.size, 64 - k, none⟩) (Nat.le_refl _) _
      have hal : Tryd.prog.arrayLen 107 = 65 := by kernel_rfl
      have hsl : (Instr.sliceAt 107 (.pointer (some ⟨w.heap.size, 0, none⟩)) (some (.int .i64 ((64 - k : Nat) : Int))) none none).run Tryd.prog W2 = .ok (.slice (some ⟨w.heap.size, 64 - k, none⟩) (k + 1) (k + 1)) W2 := by
        rw [run_sliceAt_array_l W2 107 ⟨w.heap.size, 0, none⟩ (by simp [Program.arrayLen, Program.elem, Tryd.underlying107]) .i64 ((64 - k : Nat) : Int) (by omega) (by rw [hal]; omega)]
        rw [hal]
        go_simp
        omega
      have hcv : (convert 79 9 (.slice (some ⟨w.heap.size, 64 - k, none⟩) (k + 1) (k + 1))).run Tryd.prog W2 = .ok (.string ⟨(c :: L).toArray⟩) W2 := by
        have h := run_convert_bytes_back (P := Tryd.prog) W2 79 9 5 ⟨w.heap.size, 64 - k, none⟩ (k + 1) (c :: L) Tryd.underlying79 Tryd.underlying5 Tryd.underlying9 (fun j hj => by
          rw [Lib.add_plain]
          refine cell_of_heap hb2 ?_
          unfold z65
          have hj' : j < L.length + 1 := by simpa using hj
          rw [List.getElem?_toArray, List.getElem?_append_right (by rw [List.length_replicate]; omega), List.length_replicate, show 64 - k + j - (65 - (k + 1)) = j by omega]
          unfold bv
          rw [List.getElem?_map, List.getElem?_eq_getElem hj]
          rfl)
        rw [List.length_cons, hLl] at h
        exact h
      have HX2 := Hid.mk hx2
      clear hx2 hb2 hal hcc
      go_wp2
      go_ret2
      exact ⟨by rw [HX2.out]; rfl, HB2.out⟩
set_option maxRecDepth 100000 in
theorem fu16_in (u : Nat) (hu : u < 65536) (w : World) (hG : AG w) :
    Calls Tryd.prog 37 #[.int .u64 (u : Int), .int .i64 16] w fun e w' => e = .returned (.string ⟨(dgs 16 3 u).toArray⟩) ∧ Below w.heap.size w w' := by
  have H := Hid.mk (fbits_in u hu w hG)
  clear hG
  go_enter Tryd.func37, Tryd.ntmps37
  go_wp2_with fail
  refine H.out.mono ?_
  rintro e w' ⟨rfl, hb⟩
  go_wp2
  go_ret
  exact ⟨rfl, hb⟩
set_option maxRecDepth 100000 in
/-- FormatUint of a part, as its kind tells it. -/
theorem fu_in (v : Bool) (u : Nat) (hu : u < 2 ^ (shp v).bits) (w : World) (hG : AG w) :
    Calls Tryd.prog 29 #[.int .u64 (u : Int), .int .i64 ((shp v).base : Int)] w fun e w' => e = .returned (.string ⟨((shp v).num u).toArray⟩) ∧ Below w.heap.size w w' := by
  have H : Hid (Calls Tryd.prog 37 #[.int .u64 (u : Int), .int .i64 ((shp v).base : Int)] w fun e w' => e = .returned (.string ⟨((shp v).num u).toArray⟩) ∧ Below w.heap.size w w') := by
    cases v
    · exact fu10_in u hu w hG
    · exact fu16_in u hu w hG
  clear hG hu
  generalize (shp v).num u = R at *
  generalize (shp v).base = B at *
  go_enter Tryd.func29, Tryd.ntmps29
  go_wp2_with fail
  refine H.out.mono ?_
  rintro e w' ⟨rfl, hb⟩
  go_wp2
  go_ret
  exact ⟨rfl, hb⟩
end Go.Proofs.YtpognbkdafnfjaaDoor
