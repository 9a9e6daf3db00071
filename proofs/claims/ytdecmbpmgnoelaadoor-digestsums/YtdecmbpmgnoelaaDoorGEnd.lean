/- ended. -/
import Derived.Test.YtdecmbpmgnoelaaDoorGRow
namespace Go.Proofs.YtdecmbpmgnoelaaDoor
set_option linter.unusedVariables false
open Go.RowKit
/-- the last i bytes of a number. -/
def endT (m : Nat) : Nat → List UInt8
  | 0 => []
  | i + 1 => bt m i :: endT m i
theorem endT_len (m : Nat) : ∀ i, (endT m i).length = i
  | 0 => rfl
  | i + 1 => by rw [endT, List.length_cons, endT_len m i]
/-- a block with the last i bytes of a number. -/
def endL (l : List UInt8) (m i : Nat) : List UInt8 := l.take (64 - i) ++ endT m i
theorem endL_len (l : List UInt8) (hl : l.length = 64) (m i : Nat) (hi : i ≤ 64) : (endL l m i).length = 64 := by
  rw [endL, List.length_append, endT_len, List.length_take]; omega
theorem endL_set (l : List UInt8) (hl : l.length = 64) (m i : Nat) (hi : i < 64) : (endL l m i).set (63 - i) (bt m i) = endL l m (i + 1) := by
  unfold endL
  apply List.ext_getElem?
  intro k
  simp only [List.getElem?_set, List.getElem?_append, List.length_take, List.length_append, endT_len, hl, endT]
  by_cases h1 : 63 - i = k
  · subst h1
    rw [if_pos rfl, if_pos (by omega), if_neg (by omega)]
    rw [show 63 - i - min (64 - (i + 1)) 64 = 0 by omega]
    rfl
  · rw [if_neg h1]
    by_cases h2 : k < 63 - i
    · rw [if_pos (by omega), if_pos (by omega), List.getElem?_take_of_lt (by omega), List.getElem?_take_of_lt (by omega)]
    · rw [if_neg (by omega), if_neg (by omega), show k - min (64 - (i + 1)) 64 = (k - min (64 - i) 64) + 1 by omega]
      rfl
theorem ended_in (l : List UInt8) (hl : l.length = 64) (n : Nat) (hn : n ≤ 140737488355328) (w : World) :
    Calls Tryd.prog 36 #[.agg (bc l), .int .i64 (n : Int)] w fun e w' => e = .returned (.agg (bc (endL l (8 * n) 8))) ∧ Below w.heap.size w w' := by
  have HL := Hid.mk hl
  clear hl
  go_enter Tryd.func36, Tryd.ntmps36
  go_wp2_with fail
  go_loopw [10] (fun i wr => ∃ m : Nat, m ≤ 8 ∧ i = .int .i64 m ∧ wr.heap[w.heap.size]? = some (.cells (bc (endL l (8 * n) m)) 36 (0, 0)) ∧ (∃ z, z.size = 64 ∧ wr.heap[w.heap.size + 1]? = some (.cells z 36 (0, 0))) ∧ Below w.heap.size w wr) (fun i _ => 8 - (intOf i).toNat)
  case atStart =>
    refine ⟨0, by omega, rfl, ?_, ⟨_, ?_, (congrArg (fun k => (World.alloc _ _).heap[k]?) (World.size_alloc w _).symm).trans (heap_new _ _)⟩, ((Below.refl _ _).alloc (Nat.le_refl _) _).alloc (by simp) _⟩
    · rw [Below.heap_alloc _ _ _ (by simp), heap_new]
      simp [endL, endT, List.take_of_length_le (Nat.le_of_eq HL.out)]
    · rfl
  case round =>
    obtain ⟨m, hm, rfl, h1, ⟨z, hz, h2⟩, hbl⟩ := hrel
    have H1 := Hid.mk h1
    have H2 := Hid.mk h2
    by_cases hlt : m < 8
    · obtain ⟨hc, hf⟩ := cells_at h1 (j := 63 - m) (by rw [bc_at, List.getElem?_eq_getElem (by rw [endL_len l HL.out _ _ (by omega)]; omega)]; rfl)
      clear h1 h2
      have hk : ((63 : Int) - (m : Int)).toNat = 63 - m := by omega
      go_wp2
      go_roundw
      case rel =>
        have hv : (n : Int) * 8 / 2 ^ (8 * m) % 256 = ((bt (8 * n) m).toNat : Int) := by
          rw [bt, UInt8.toNat_ofNat', show (n : Int) * 8 / 2 ^ (8 * m) = ((8 * n / 2 ^ (8 * m) : Nat) : Int) by rw [Int.natCast_ediv, Int.natCast_mul, Int.natCast_pow, Int.mul_comm]; rfl]
          generalize 8 * n / 2 ^ (8 * m) = q
          omega
        rw [hv]
        refine ⟨m + 1, by omega, by go_num, ?_, ⟨z, hz, ?_⟩, hbl.setCell (Nat.le_refl _) _⟩
        · rw [cells_put H1.out, bc_set, endL_set l HL.out _ _ (by omega)]
        · rw [Below.heap_setCell _ _ _ _ (by simp)]; exact H2.out
      case measure => simp [intOf]; omega
    · obtain rfl : m = 8 := by omega
      have hs := bc_size (endL l (8 * n) 8)
      rw [endL_len l HL.out _ _ (by omega)] at hs
      have HS := Hid.mk hs
      have HZ := Hid.mk hz
      clear h1 h2 hs hz
      go_upto_region 7 with fail
      refine wp_region_lit ?_
      refine wpList_run (W' := wr) (v := .agg (bc (endL l (8 * n) 8))) rfl (op_load arr37 H1.out HS.out rfl rfl) ?_
      refine wpList_runS rfl (op_store arr37 H2.out HZ.out HS.out (bc_one _) rfl rfl rfl) ?_
      go_wp2
      refine bodyPost_ret (v := .agg (bc (endL l (8 * n) 8))) (results_cell1 arr37 Tryd.results36 rfl (setRow_heap _ _ _ _ _ _ H2.out) HS.out) rfl ⟨rfl, Below.setRow hbl (by omega) _⟩
end Go.Proofs.YtdecmbpmgnoelaaDoor
