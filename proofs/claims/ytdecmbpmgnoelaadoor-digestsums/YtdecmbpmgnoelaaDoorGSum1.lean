/- bytesOf, Sum1. -/
import Derived.Test.YtdecmbpmgnoelaaDoorGBlk
import Derived.Test.YtdecmbpmgnoelaaDoorGStir1
namespace Go.Proofs.YtdecmbpmgnoelaaDoor
set_option linter.unusedVariables false
open Go.RowKit

theorem put5 {W : World} {b t : Nat} (s r : S5) (h : W.heap[b]? = some (.cells (wc s.l) t (0, 0))) :
    (((((W.setCell ⟨b, 0, none⟩ (.int .u32 (r.a.toNat : Int))).setCell ⟨b, 1, none⟩ (.int .u32 (r.b.toNat : Int))).setCell ⟨b, 2, none⟩ (.int .u32 (r.c.toNat : Int))).setCell ⟨b, 3, none⟩ (.int .u32 (r.d.toNat : Int))).setCell ⟨b, 4, none⟩ (.int .u32 (r.e.toNat : Int))).heap[b]? = some (.cells (wc r.l) t (0, 0)) := by
  rw [cells_put (cells_put (cells_put (cells_put (cells_put h _) _) _) _) _]
  rfl
theorem cells5 {W : World} {b t : Nat} (s : S5) (h : W.heap[b]? = some (.cells (wc s.l) t (0, 0))) :
    (W.cell? ⟨b, 0, none⟩ = some (.int .u32 (s.a.toNat : Int)) ∧ W.cell? ⟨b, 1, none⟩ = some (.int .u32 (s.b.toNat : Int)) ∧ W.cell? ⟨b, 2, none⟩ = some (.int .u32 (s.c.toNat : Int)) ∧ W.cell? ⟨b, 3, none⟩ = some (.int .u32 (s.d.toNat : Int)) ∧ W.cell? ⟨b, 4, none⟩ = some (.int .u32 (s.e.toNat : Int))) ∧
    (W.frozen? ⟨b, 0, none⟩ = false ∧ W.frozen? ⟨b, 1, none⟩ = false ∧ W.frozen? ⟨b, 2, none⟩ = false ∧ W.frozen? ⟨b, 3, none⟩ = false ∧ W.frozen? ⟨b, 4, none⟩ = false) :=
  ⟨s.at h, (cells_at h (j := 0) rfl).2, (cells_at h (j := 1) rfl).2, (cells_at h (j := 2) rfl).2, (cells_at h (j := 3) rfl).2, (cells_at h (j := 4) rfl).2⟩

set_option maxRecDepth 100000 in
set_option maxHeartbeats 2000000 in
theorem sum1_gen (s : ByteArray) (hs : s.size ≤ 140737488355328) (n : Nat) (hn : n = nb s.size) (B : Nat → List UInt8) (hB : ∀ k, (B k).length = 64) (R : Nat → S5) (hR0 : R 0 = ⟨0x67452301#32, 0xefcdab89#32, 0x98badcfe#32, 0x10325476#32, 0xc3d2e1f0#32⟩) (hRs : ∀ k, R (k + 1) = stir1 (R k) (B k))
    (hbk : ∀ k, k < n → ∀ w : World, Calls Tryd.prog 21 #[.string s, .int .i64 (k : Int)] w fun e w' => e = .returned (.agg (bc (B k))) ∧ Below w.heap.size w w')
    (T : List UInt8) (hT : ∀ (W : World) (b : Nat), W.heap[b]? = some (.cells (wc (R n).l) 32 (0, 0)) → Calls Tryd.prog 22 #[.slice (some ⟨b, 0, none⟩) 5 5] W fun e w' => e = .returned (.string ⟨T.toArray⟩) ∧ Below W.heap.size W w') (w : World) :
    Calls Tryd.prog 7 #[.string s] w fun e w' => e = .returned (.string ⟨T.toArray⟩) ∧ Below w.heap.size w w' := by
  have HN : Hid (n = nb s.size) := hn
  have HB := Hid.mk hB
  have HR0 := Hid.mk hR0
  have HRs := Hid.mk hRs
  have HBK := Hid.mk hbk
  have HT := Hid.mk hT
  have hnb : n ≤ 2199023255553 := by rw [hn]; unfold nb; omega
  have HBL := Hid.mk (blocks_in s.size hs)
  rw [← hn] at HBL
  clear hn hB hR0 hRs hbk hT
  go_enter Tryd.func7, Tryd.ntmps7
  go_wp2_with fail
  refine (HBL.out _).mono ?_
  rintro e W1 ⟨rfl, rfl⟩
  go_wp2_with fail
  go_loopw [9] (fun i wr => ∃ m : Nat, m ≤ n ∧ i = .int .i64 m ∧ wr.heap[w.heap.size]? = some (.cells (wc (R m).l) 32 (0, 0)) ∧ Below w.heap.size w wr) (fun i _ => n - (intOf i).toNat)
  case atStart =>
    refine ⟨0, by omega, rfl, ?_, (Below.refl _ _).alloc (Nat.le_refl _) _⟩
    rw [HR0.out, heap_new]
    rfl
  case round =>
    obtain ⟨m, hm, rfl, h1, hbl⟩ := hrel
    have H1 := Hid.mk h1
    by_cases hlt : m < n
    · have HST : Hid (∀ W : World, Calls Tryd.prog 20 #[.agg #[.int .u32 ((R m).a.toNat : Int), .int .u32 ((R m).b.toNat : Int), .int .u32 ((R m).c.toNat : Int), .int .u32 ((R m).d.toNat : Int), .int .u32 ((R m).e.toNat : Int)], .agg (bc (B m))] W fun x w' => x = .returned (.agg #[.int .u32 ((R (m + 1)).a.toNat : Int), .int .u32 ((R (m + 1)).b.toNat : Int), .int .u32 ((R (m + 1)).c.toNat : Int), .int .u32 ((R (m + 1)).d.toNat : Int), .int .u32 ((R (m + 1)).e.toNat : Int)]) ∧ Below W.heap.size W w') := fun W => by
        rw [HRs.out m]
        exact stir1_in (R m) (B m) (HB.out m) W
      have HBM := Hid.mk (HBK.out m hlt)
      obtain ⟨⟨c0, c1, c2, c3, c4⟩, f0, f1', f2, f3, f4⟩ := cells5 (R m) h1
      clear h1
      go_wp2_with fail
      go_region_with (first
        | (have hck := M1; clear hck; go_at_call 20; refine (HST.out _).mono ?_; rintro e w2 ⟨rfl, hb2⟩; have K2 : Hid (w2.heap[w.heap.size]? = _) := (hb2.block _ (box_lt K1.out)).trans K1.out; obtain ⟨⟨e0, e1, e2, e3, e4⟩, g0, g1, g2, g3, g4⟩ := cells5 (R m) K2.out)
        | (go_at_call 21; refine (HBM.out _).mono ?_; rintro e w1 ⟨rfl, hb1⟩; have K1 : Hid (w1.heap[w.heap.size]? = _) := (hb1.block _ (box_lt H1.out)).trans H1.out; obtain ⟨⟨d0, d1, d2, d3, d4⟩, j0, j1, j2, j3, j4⟩ := cells5 (R m) K1.out; have M1 : True := trivial))
      all_goals (
        have hbw : Below w.heap.size w w2 := bthen (bthen hbl.drew hb1) hb2
        clear hb1 hb2 K1 d0 d1 d2 d3 d4 j0 j1 j2 j3 j4 e0 e1 e2 e3 e4 g0 g1 g2 g3 g4 c0 c1 c2 c3 c4 f0 f1' f2 f3 f4
        go_wp2
        go_roundw
        case rel => exact ⟨m + 1, by omega, by go_num, put5 (R m) (R (m + 1)) K2.out, ((((hbw.setCell (Nat.le_refl _) _).setCell (Nat.le_refl _) _).setCell (Nat.le_refl _) _).setCell (Nat.le_refl _) _).setCell (Nat.le_refl _) _⟩
        case measure => simp [intOf]; omega)
    · obtain rfl : m = n := by omega
      have HTT := Hid.mk (HT.out wr w.heap.size H1.out)
      clear h1
      go_wp2_with fail
      refine HTT.out.mono ?_
      rintro e w3 ⟨rfl, hb3⟩
      go_wp2
      go_ret
      exact ⟨rfl, bthen hbl hb3⟩
end Go.Proofs.YtdecmbpmgnoelaaDoor
