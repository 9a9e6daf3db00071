/- Sum256. -/
import Derived.Test.YtdecmbpmgnoelaaDoorGBlk
import Derived.Test.YtdecmbpmgnoelaaDoorGStir2
namespace Go.Proofs.YtdecmbpmgnoelaaDoor
set_option linter.unusedVariables false
open Go.RowKit

theorem cells8 {W : World} {b t : Nat} (s : S8) (h : W.heap[b]? = some (.cells (wc s.l) t (0, 0))) :
    (W.cell? ⟨b, 0, none⟩ = some (.int .u32 (s.a.toNat : Int)) ∧ W.cell? ⟨b, 1, none⟩ = some (.int .u32 (s.b.toNat : Int)) ∧ W.cell? ⟨b, 2, none⟩ = some (.int .u32 (s.c.toNat : Int)) ∧ W.cell? ⟨b, 3, none⟩ = some (.int .u32 (s.d.toNat : Int)) ∧ W.cell? ⟨b, 4, none⟩ = some (.int .u32 (s.e.toNat : Int)) ∧ W.cell? ⟨b, 5, none⟩ = some (.int .u32 (s.f.toNat : Int)) ∧ W.cell? ⟨b, 6, none⟩ = some (.int .u32 (s.g.toNat : Int)) ∧ W.cell? ⟨b, 7, none⟩ = some (.int .u32 (s.h.toNat : Int))) ∧
    (W.frozen? ⟨b, 0, none⟩ = false ∧ W.frozen? ⟨b, 1, none⟩ = false ∧ W.frozen? ⟨b, 2, none⟩ = false ∧ W.frozen? ⟨b, 3, none⟩ = false ∧ W.frozen? ⟨b, 4, none⟩ = false ∧ W.frozen? ⟨b, 5, none⟩ = false ∧ W.frozen? ⟨b, 6, none⟩ = false ∧ W.frozen? ⟨b, 7, none⟩ = false) :=
  ⟨s.at h, (cells_at h (j := 0) rfl).2, (cells_at h (j := 1) rfl).2, (cells_at h (j := 2) rfl).2, (cells_at h (j := 3) rfl).2, (cells_at h (j := 4) rfl).2, (cells_at h (j := 5) rfl).2, (cells_at h (j := 6) rfl).2, (cells_at h (j := 7) rfl).2⟩

set_option maxRecDepth 100000 in
set_option maxHeartbeats 2000000 in
theorem sum2_gen (s : ByteArray) (hs : s.size ≤ 140737488355328) (n : Nat) (hn : n = nb s.size) (B : Nat → List UInt8) (hB : ∀ k, (B k).length = 64) (R : Nat → S8) (hR0 : R 0 = ⟨0x6a09e667#32, 0xbb67ae85#32, 0x3c6ef372#32, 0xa54ff53a#32, 0x510e527f#32, 0x9b05688c#32, 0x1f83d9ab#32, 0x5be0cd19#32⟩) (hRs : ∀ k, R (k + 1) = stir2 (R k) (B k))
    (hbk : ∀ k, k < n → ∀ w : World, Calls Tryd.prog 21 #[.string s, .int .i64 (k : Int)] w fun e w' => e = .returned (.agg (bc (B k))) ∧ Below w.heap.size w w')
    (T : List UInt8) (hT : ∀ (W : World) (b : Nat), W.heap[b]? = some (.cells (wc (R n).l) 42 (0, 0)) → Calls Tryd.prog 22 #[.slice (some ⟨b, 0, none⟩) 8 8] W fun e w' => e = .returned (.string ⟨T.toArray⟩) ∧ Below W.heap.size W w') (w : World) (hG : Rk w) :
    Calls Tryd.prog 9 #[.string s] w fun e w' => e = .returned (.string ⟨T.toArray⟩) ∧ Below w.heap.size w w' := by
  have HN : Hid (n = nb s.size) := hn
  have HB := Hid.mk hB
  have HR0 := Hid.mk hR0
  have HRs := Hid.mk hRs
  have HBK := Hid.mk hbk
  have HT := Hid.mk hT
  have HG := Hid.mk hG
  have hnb : n ≤ 2199023255553 := by rw [hn]; unfold nb; omega
  have HBL := Hid.mk (blocks_in s.size hs)
  rw [← hn] at HBL
  clear hn hB hR0 hRs hbk hT hG
  go_enter Tryd.func9, Tryd.ntmps9
  go_wp2_with fail
  refine (HBL.out _).mono ?_
  rintro e W1 ⟨rfl, rfl⟩
  go_wp2_with fail
  go_loopw [9] (fun i wr => ∃ m : Nat, m ≤ n ∧ i = .int .i64 m ∧ wr.heap[w.heap.size]? = some (.cells (wc (R m).l) 42 (0, 0)) ∧ Below w.heap.size w wr) (fun i _ => n - (intOf i).toNat)
  case atStart =>
    refine ⟨0, by omega, rfl, ?_, (Below.refl _ _).alloc (Nat.le_refl _) _⟩
    rw [HR0.out, heap_new]
    rfl
  case round =>
    obtain ⟨m, hm, rfl, h1, hbl⟩ := hrel
    have H1 := Hid.mk h1
    by_cases hlt : m < n
    · have HST : Hid (∀ W : World, Rk W → Calls Tryd.prog 27 #[.agg #[.int .u32 ((R m).a.toNat : Int), .int .u32 ((R m).b.toNat : Int), .int .u32 ((R m).c.toNat : Int), .int .u32 ((R m).d.toNat : Int), .int .u32 ((R m).e.toNat : Int), .int .u32 ((R m).f.toNat : Int), .int .u32 ((R m).g.toNat : Int), .int .u32 ((R m).h.toNat : Int)], .agg (bc (B m))] W fun x w' => x = .returned (.agg #[.int .u32 ((R (m + 1)).a.toNat : Int), .int .u32 ((R (m + 1)).b.toNat : Int), .int .u32 ((R (m + 1)).c.toNat : Int), .int .u32 ((R (m + 1)).d.toNat : Int), .int .u32 ((R (m + 1)).e.toNat : Int), .int .u32 ((R (m + 1)).f.toNat : Int), .int .u32 ((R (m + 1)).g.toNat : Int), .int .u32 ((R (m + 1)).h.toNat : Int)]) ∧ Below W.heap.size W w') := fun W hk => by
        rw [HRs.out m]
        exact stir2_in (R m) (B m) (HB.out m) W hk
      have HBM := Hid.mk (HBK.out m hlt)
      obtain ⟨⟨c0, c1, c2, c3, c4, c5, c6, c7⟩, f0, f1', f2, f3, f4, f5, f6, f7⟩ := cells8 (R m) h1
      clear h1
      go_wp2_with fail
      go_region_with (first
        | (have hck := M1; clear hck; go_at_call 27; refine (HST.out _ (HG.out.below (bthen hbl.drew hb1))).mono ?_; rintro e w2 ⟨rfl, hb2⟩; have K2 : Hid (w2.heap[w.heap.size]? = _) := (hb2.block _ (box_lt K1.out)).trans K1.out; obtain ⟨⟨e0, e1, e2, e3, e4, e5, e6, e7⟩, g0, g1, g2, g3, g4, g5, g6, g7⟩ := cells8 (R m) K2.out)
        | (go_at_call 21; refine (HBM.out _).mono ?_; rintro e w1 ⟨rfl, hb1⟩; have K1 : Hid (w1.heap[w.heap.size]? = _) := (hb1.block _ (box_lt H1.out)).trans H1.out; obtain ⟨⟨d0, d1, d2, d3, d4, d5, d6, d7⟩, j0, j1, j2, j3, j4, j5, j6, j7⟩ := cells8 (R m) K1.out; have M1 : True := trivial))
      all_goals (
        have hbw : Below w.heap.size w w2 := bthen (bthen hbl.drew hb1) hb2
        clear hb1 hb2 K1 d0 d1 d2 d3 d4 d5 d6 d7 j0 j1 j2 j3 j4 j5 j6 j7 e0 e1 e2 e3 e4 e5 e6 e7 g0 g1 g2 g3 g4 g5 g6 g7 c0 c1 c2 c3 c4 c5 c6 c7 f0 f1' f2 f3 f4 f5 f6 f7
        go_wp2
        go_roundw
        case rel => exact ⟨m + 1, by omega, by go_num, put8 K2.out rfl, put8_below hbw (Nat.le_refl _)⟩
        case measure => simp [intOf]; omega)
    · obtain rfl : m = n := by omega
      have HTT := Hid.mk (HT.out wr w.heap.size H1.out)
      clear h1
      go_wp2_with fail
      refine HTT.out.mono ?_
      rintro e w3 ⟨rfl, hb3⟩
      go_wp2
      go_ret
      exact ⟨rfl, bthen hbl hb3⟩
end Go.Proofs.YtdecmbpmgnoelaaDoor
