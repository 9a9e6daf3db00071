/- Numbers that lie in boxes of their own; Of, at most so many bytes. -/
import Derived.Test.YthjhemodmdficaaDoorNIv
namespace Go.Proofs.YthjhemodmdficaaDoor
set_option linter.unusedVariables false
open Go.RowKit
attribute [local go_sem ↓] loadAt_nat storeAt_nat build_nat build_nat'
attribute [local go_sem] st1 st2a st2b natBuild_run
def Has (w : World) : List (Nat × Nat) → Prop
  | [] => True
  | p :: l => w.heap[p.1]? = some (.cells (natL p.2).toArray 27 (0, 0)) ∧ Has w l
theorem Has.blk {w w' : World} (hb : Below w.heap.size w w') : ∀ {l : List (Nat × Nat)}, Has w l → Has w' l
  | [], _ => trivial
  | _ :: _, h => ⟨Go.Proofs.YthjhemodmdficaaDoor.blk hb h.1, Has.blk hb h.2⟩
theorem Has.get {w : World} : ∀ {l : List (Nat × Nat)} (i : Nat) {b N : Nat}, Has w l → l[i]? = some (b, N) → w.heap[b]? = some (.cells (natL N).toArray 27 (0, 0))
  | [], _, _, _, _, h => by simp at h
  | p :: l, 0, b, N, h, e => by
    have : p = (b, N) := by simpa using e
    subst this
    exact h.1
  | _ :: l, i + 1, b, N, h, e => Has.get i h.2 (by simpa using e)
theorem Has.new1 {w : World} {l : List (Nat × Nat)} (N : Nat) (h : Has w l) : Has (w.alloc (.cells (natL N).toArray 27)) ((w.heap.size, N) :: l) :=
  ⟨heap_new _ _, h.blk ((Below.refl _ _).alloc (Nat.le_refl _) _)⟩
theorem Has.new2 {w : World} {l : List (Nat × Nat)} (N M : Nat) (h : Has w l) : Has ((w.alloc (.cells (natL N).toArray 27)).alloc (.cells (natL M).toArray 27)) ((w.heap.size, N) :: (w.heap.size + 1, M) :: l) :=
  ⟨(two_new _ _ _ _ _).1, (two_new _ _ _ _ _).2.1, h.blk (two_new _ _ _ _ _).2.2.1⟩
theorem below_new1 {W w : World} (N : Nat) (h : Below W.heap.size W w) : Below W.heap.size W (w.alloc (.cells (natL N).toArray 27)) := bthen h ((Below.refl _ _).alloc (Nat.le_refl _) _)
theorem below_new2 {W w : World} (N M : Nat) (h : Below W.heap.size W w) : Below W.heap.size W ((w.alloc (.cells (natL N).toArray 27)).alloc (.cells (natL M).toArray 27)) := bthen h (two_new _ _ _ _ _).2.2.1
theorem ofR_ok (l : List UInt8) (h : (strip l).length ≤ 512) : ofR l = .returned (.tuple #[.agg (natL (numB l)).toArray, .int .i64 0]) := if_pos h
theorem strip_le : ∀ l : List UInt8, (strip l).length ≤ l.length
  | [] => by simp [strip]
  | x :: l => by
    rw [strip]
    split
    · have := strip_le l; simp; omega
    · exact Nat.le_refl _
theorem pow4 (m : Nat) : (256 : Nat) ^ (4 * m) = 4294967296 ^ m := by rw [Nat.pow_mul]
theorem lim_of (N k m : Nat) (hk : k ≤ 4 * m) (h : N < 256 ^ k) : N < 4294967296 ^ m := by
  rw [← pow4]
  exact Nat.lt_of_lt_of_le h (Nat.pow_le_pow_right (by omega) hk)
theorem lim_512 (N k : Nat) (hk : k ≤ 512) (h : N < 256 ^ k) : N < Lim := lim_of N k 128 hk h
theorem ext_take (s : ByteArray) (n : Nat) : (s.extract 0 n).data.toList = s.data.toList.take n := by
  rw [ByteArray.data_extract, Array.toList_extract, List.extract_eq_take_drop, List.drop_zero, Nat.sub_zero]
set_option maxRecDepth 100000 in
set_option maxHeartbeats 400000 in
theorem lawof_in (s : ByteArray) (n : Nat) (hs : s.size ≤ 140737488355328) (hn : n ≤ 512) (W : World) : Calls Tryd.prog 34 #[.string s, .int .i64 (n : Int)] W fun e w' => e = .returned (.agg (natL (numB (s.data.toList.take n))).toArray) ∧ Below W.heap.size W w' := by
  have b0 := boxed W (natL 0) 27
  have hBl : Below W.heap.size W (W.alloc (.cells (natL 0).toArray 27)) := (Below.refl _ _).alloc (Nat.le_refl _) _
  have hz := zero26
  have hsl : (strip (s.data.toList.take n)).length ≤ 512 := Nat.le_trans (strip_le _) (by rw [List.length_take]; omega)
  obtain ⟨N, hN⟩ : ∃ N, numB (s.data.toList.take n) = N := ⟨_, rfl⟩
  have HN := Hid.mk hN
  clear hN
  have hn0 : (0 : Int) ≤ (n : Int) := by omega
  by_cases hlt : n < s.size
  · have HO := Hid.mk (of_in (s.extract 0 n) (by rw [ByteArray.size_extract]; omega))
    rw [ext_take, ofR_ok _ hsl, HN.out] at HO
    have hlI : (n : Int) < (s.size : Int) := by omega
    have hlJ : (n : Int) ≤ (s.size : Int) := by omega
    clear hsl
    generalize hSS : s.extract 0 n = SS at HO
    go_enter Tryd.func34, Tryd.ntmps34
    go_wp2_with fail
    refine (HO.out _).mono ?_
    rintro e w1 ⟨rfl, hb1⟩
    have c0 := blk hb1 b0
    have hBW := bthen hBl hb1
    clear b0 hBl hb1
    go_upto_region 4 with fail
    have t0 := heap_new w1 (.cells (natL N).toArray 27)
    have tB : Below w1.heap.size w1 (w1.alloc (.cells (natL N).toArray 27)) := (Below.refl _ _).alloc (Nat.le_refl _) _
    have hg : W.heap.size < w1.heap.size := box_lt c0
    replace c0 := blk tB c0
    replace hBW := bthen hBW tB
    generalize w1.alloc (.cells (natL N).toArray 27) = U at t0 c0 hBW ⊢
    clear tB
    have l0 := natLoad_run t0
    have s0 := natStore_run (N := N) c0
    have r0 := setRow_heap _ _ _ (natL N).toArray _ _ c0
    have hB3 := below_row hBW (Nat.le_refl _) (natL N).toArray
    go_wp2
    exact bodyPost_ret (results_nat Tryd.results34 rfl r0 (natL_len N)) rfl ⟨by rw [HN.out], hB3⟩
  · have HO := Hid.mk (of_in s hs)
    have ht : s.data.toList.take n = s.data.toList := List.take_of_length_le (by rw [size_list]; omega)
    rw [ht] at HN hsl
    rw [ofR_ok _ hsl, HN.out] at HO
    have HT := Hid.mk ht
    have hlI : ¬ ((n : Int) < (s.size : Int)) := by omega
    have hlJ : (s.size : Int) ≤ (n : Int) := by omega
    clear hsl ht
    go_enter Tryd.func34, Tryd.ntmps34
    go_wp2_with fail
    refine (HO.out _).mono ?_
    rintro e w1 ⟨rfl, hb1⟩
    have c0 := blk hb1 b0
    have hBW := bthen hBl hb1
    clear b0 hBl hb1
    go_upto_region 4 with fail
    have t0 := heap_new w1 (.cells (natL N).toArray 27)
    have tB : Below w1.heap.size w1 (w1.alloc (.cells (natL N).toArray 27)) := (Below.refl _ _).alloc (Nat.le_refl _) _
    have hg : W.heap.size < w1.heap.size := box_lt c0
    replace c0 := blk tB c0
    replace hBW := bthen hBW tB
    generalize w1.alloc (.cells (natL N).toArray 27) = U at t0 c0 hBW ⊢
    clear tB
    have l0 := natLoad_run t0
    have s0 := natStore_run (N := N) c0
    have r0 := setRow_heap _ _ _ (natL N).toArray _ _ c0
    have hB3 := below_row hBW (Nat.le_refl _) (natL N).toArray
    go_wp2
    exact bodyPost_ret (results_nat Tryd.results34 rfl r0 (natL_len N)) rfl ⟨by rw [HT.out, HN.out], hB3⟩
end Go.Proofs.YthjhemodmdficaaDoor
