/- Texts of this proof, joined: DTakes. -/
import Derived.BigQuiet
import Derived.Test.YtdhcbaennpediaaGreatDoorJ18
/- DataTakes, the walk. -/
namespace Go.Proofs.YtdhcbaennpediaaGreatDoor
set_option linter.unusedVariables false
open Go.RowKit

theorem on_old {A B : World} {b : Nat} {o p : Obj} (h : A.heap[b]? = some o) (hb : Below (A.alloc p).heap.size (A.alloc p) B) : B.heap[b]? = some o := by
  have hl := box_lt h
  exact (hb.block b (by simp; omega)).trans ((alloc_old _ _ _ hl).trans h)
theorem on_new {A B : World} {p : Obj} (hb : Below (A.alloc p).heap.size (A.alloc p) B) : B.heap[A.heap.size]? = some p := (hb.block _ (by simp)).trans (heap_new _ _)
theorem on_bel {W A B : World} {p : Obj} (h : Below W.heap.size W A) (hb : Below (A.alloc p).heap.size (A.alloc p) B) : Below W.heap.size W B := (h.alloc h.size _).trans (hb.mono (by have := h.size; simp; omega))
theorem on_self {A B : World} {p : Obj} (hb : Below (A.alloc p).heap.size (A.alloc p) B) : Below A.heap.size A B := ((Below.refl _ _).alloc (Nat.le_refl _) _).trans (hb.mono (by simp))

theorem bel_drewN {n : Nat} {A B : World} (h : Below n A B) : ∀ k, Below n A (B.drewN k) := fun k => ⟨h.os, h.tape, h.output, h.size, h.block⟩
theorem alloc3 (w : World) (A B C : Obj) : Below w.heap.size w (((w.alloc A).alloc B).alloc C) ∧ (((w.alloc A).alloc B).alloc C).heap[w.heap.size]? = some A ∧ (((w.alloc A).alloc B).alloc C).heap[w.heap.size + 1]? = some B ∧ (((w.alloc A).alloc B).alloc C).heap[w.heap.size + 1 + 1]? = some C := by
  have s1 : (w.alloc A).heap.size = w.heap.size + 1 := by simp
  have s2 : ((w.alloc A).alloc B).heap.size = w.heap.size + 1 + 1 := by simp
  refine ⟨(((Below.refl _ _).alloc (Nat.le_refl _) _).alloc (by simp) _).alloc (by simp; omega) _, ?_, ?_, ?_⟩
  · rw [alloc_old _ _ _ (by omega), alloc_old _ _ _ (by omega)]; exact heap_new _ _
  · rw [alloc_old _ _ _ (by omega), ← s1]; exact heap_new _ _
  · rw [← s2]; exact heap_new _ _

set_option maxRecDepth 100000 in
set_option maxHeartbeats 16000000 in
theorem takes_walk (d : ByteArray) (hd : d.size ≤ 140737488355328) (W : World) (hG : Glob W) :
    Calls Tryz.prog 3 #[.string d] W fun e w' => e = .returned (.bool true) ∧ Below W.heap.size W w' := by
  have hmo : Tryz.prog.follows Departure.mixedOrders = true := by kernel_rfl
  have hm : d.size ≤ maxLen := by unfold maxLen; omega
  have hd2 : d.size ≤ 140737488355328 := by omega
  have HN : Hid (∀ (X : World) va vb (l : List Int), IntsAt X va l → IntsAt X vb l → l.length ≤ 1000000 → Calls Tryz.prog 20 #[va, vb] X fun e w' => e = .returned (.bool true) ∧ Below X.heap.size X w') := fun X va vb l h1 h2 h3 => by
    have := numbers_in X va vb l l h1 h2 h3 h3
    rw [decide_eq_true rfl] at this
    exact this
  have HTSoa := Hid.mk (takeSoa_in d hm)
  have HFSoa := Hid.mk (refSoa_in d hd2)
  have HTSig := Hid.mk (takeSig_in d hm)
  have HFSig := Hid.mk (refSig_in d hd2)
  have HTKey := Hid.mk (takeKey_in d hm)
  have HFKey := Hid.mk (refKey_in d hd2)
  have HTDs := Hid.mk (takeDs_in d hm)
  have HFDs := Hid.mk (refDs_in d hd2)
  have HTNsec := Hid.mk (takeNsec_in d hm)
  have HFNsec := Hid.mk (refNsec_in d hd2)
  have HTNsec3 := Hid.mk (takeNsec3_in d hm)
  have HFNsec3 := Hid.mk (refNsec3_in d hd2)
  clear hm hd2 hd
  go_enter Tryz.func3, Tryz.ntmps3
  go_wp2_with fail
  refine (examples_in W hG).mono ?_
  rintro e w1 ⟨rfl, k1⟩
  have K := Hid.mk k1
  clear k1 hG
  go_wp2_with fail
  refine (HTSoa.out _).mono ?_
  rintro e w2 ⟨⟨v, er1, rfl, ht⟩, y⟩
  have T1 := Hid.mk ht
  obtain ⟨x1n2, x1n3, x1n4, x1n5, x1n6, x1s0, x1s1, rfl, hjk⟩ := ht
  clear hjk
  replace K := Hid.mk (bth K.out y K.out.size)
  clear y HTSoa
  go_wp2_with fail
  refine (HFSoa.out _).mono ?_
  rintro e w3 ⟨hr, y⟩
  obtain ⟨ok1, rfl, hok⟩ := sameSoa T1.out hr
  have O1 := Hid.mk hok
  replace K := Hid.mk (on_bel K.out y)
  have D1 := Hid.mk (on_new y)
  clear y hr hok HFSoa T1
  go_wp2_with fail
  refine (HTSig.out _).mono ?_
  rintro e w4 ⟨⟨v, er2, rfl, ht⟩, y⟩
  have T2 := Hid.mk ht
  obtain ⟨x2n0, x2n1, x2n2, x2n3, x2n4, x2n5, x2n6, x2s7, x2s8, rfl, hjk⟩ := ht
  clear hjk
  replace K := Hid.mk (on_bel K.out y)
  replace D1 := Hid.mk (on_old D1.out y)
  have R1 := Hid.mk (on_new y)
  clear y HTSig
  go_wp2_with fail
  refine (HFSig.out _).mono ?_
  rintro e w5 ⟨hr, y⟩
  obtain ⟨ok2, rfl, hok⟩ := sameSig T2.out hr
  have O2 := Hid.mk hok
  replace K := Hid.mk (on_bel K.out y)
  replace D1 := Hid.mk (on_old D1.out y)
  replace R1 := Hid.mk (on_old R1.out y)
  have D2 := Hid.mk (on_new y)
  clear y hr hok HFSig T2
  go_wp2_with fail
  refine (HTKey.out _).mono ?_
  rintro e w6 ⟨⟨v, er3, rfl, ht⟩, y⟩
  have T3 := Hid.mk ht
  obtain ⟨x3n0, x3n1, x3n2, x3s3, rfl, hjk⟩ := ht
  clear hjk
  replace K := Hid.mk (on_bel K.out y)
  replace D1 := Hid.mk (on_old D1.out y)
  replace R1 := Hid.mk (on_old R1.out y)
  replace D2 := Hid.mk (on_old D2.out y)
  have R2 := Hid.mk (on_new y)
  clear y HTKey
  go_wp2_with fail
  refine (HFKey.out _).mono ?_
  rintro e w7 ⟨hr, y⟩
  obtain ⟨ok3, rfl, hok⟩ := sameKey T3.out hr
  have O3 := Hid.mk hok
  replace K := Hid.mk (on_bel K.out y)
  replace D1 := Hid.mk (on_old D1.out y)
  replace R1 := Hid.mk (on_old R1.out y)
  replace D2 := Hid.mk (on_old D2.out y)
  replace R2 := Hid.mk (on_old R2.out y)
  have D3 := Hid.mk (on_new y)
  clear y hr hok HFKey T3
  go_wp2_with fail
  refine (HTDs.out _).mono ?_
  rintro e w8 ⟨⟨v, er4, rfl, ht⟩, y⟩
  have T4 := Hid.mk ht
  obtain ⟨x4n0, x4n1, x4n2, x4s3, rfl, hjk⟩ := ht
  clear hjk
  replace K := Hid.mk (on_bel K.out y)
  replace D1 := Hid.mk (on_old D1.out y)
  replace R1 := Hid.mk (on_old R1.out y)
  replace D2 := Hid.mk (on_old D2.out y)
  replace R2 := Hid.mk (on_old R2.out y)
  replace D3 := Hid.mk (on_old D3.out y)
  have R3 := Hid.mk (on_new y)
  clear y HTDs
  go_wp2_with fail
  refine (HFDs.out _).mono ?_
  rintro e w9 ⟨hr, y⟩
  obtain ⟨ok4, rfl, hok⟩ := sameDs T4.out hr
  have O4 := Hid.mk hok
  replace K := Hid.mk (on_bel K.out y)
  replace D1 := Hid.mk (on_old D1.out y)
  replace R1 := Hid.mk (on_old R1.out y)
  replace D2 := Hid.mk (on_old D2.out y)
  replace R2 := Hid.mk (on_old R2.out y)
  replace D3 := Hid.mk (on_old D3.out y)
  replace R3 := Hid.mk (on_old R3.out y)
  have D4 := Hid.mk (on_new y)
  clear y hr hok HFDs T4
  go_wp2_with fail
  refine (HTNsec.out _).mono ?_
  rintro e w10 ⟨⟨v, er5, rfl, ht⟩, y⟩
  have T5 := Hid.mk ht
  obtain ⟨nx5, v5, _, _, rfl, hi5, hjk⟩ := ht
  obtain ⟨q5, c5, rfl, hjk2⟩ := hi5
  clear hjk hjk2
  replace K := Hid.mk (on_bel K.out y)
  replace D1 := Hid.mk (on_old D1.out y)
  replace R1 := Hid.mk (on_old R1.out y)
  replace D2 := Hid.mk (on_old D2.out y)
  replace R2 := Hid.mk (on_old R2.out y)
  replace D3 := Hid.mk (on_old D3.out y)
  replace R3 := Hid.mk (on_old R3.out y)
  replace D4 := Hid.mk (on_old D4.out y)
  have R4 := Hid.mk (on_new y)
  clear y HTNsec
  go_wp2_with fail
  refine (HFNsec.out _).mono ?_
  rintro e w11 ⟨hr, y⟩
  obtain ⟨nx', vj, vu5, l5, ok5, hv, hj5, rfl, hu5, hok, hl5⟩ := sameNsec T5.out (on_self y) hr
  have hv2 := congrArg (fun x : Value => match x with | .agg a => a.toList | _ => []) hv
  simp only [List.cons.injEq, Value.string.injEq, and_true] at hv2
  obtain ⟨rfl, rfl⟩ := hv2
  have J5 := Hid.mk hj5
  have U5 := Hid.mk hu5
  have L5 := Hid.mk hl5
  obtain ⟨p5, z5, rfl, hjk⟩ := hu5
  clear hjk
  clear hj5 hl5 hv
  have O5 := Hid.mk hok
  replace K := Hid.mk (on_bel K.out y)
  replace D1 := Hid.mk (on_old D1.out y)
  replace R1 := Hid.mk (on_old R1.out y)
  replace D2 := Hid.mk (on_old D2.out y)
  replace R2 := Hid.mk (on_old R2.out y)
  replace D3 := Hid.mk (on_old D3.out y)
  replace R3 := Hid.mk (on_old R3.out y)
  replace D4 := Hid.mk (on_old D4.out y)
  replace R4 := Hid.mk (on_old R4.out y)
  have D5 := Hid.mk (on_new y)
  clear y hr hok HFNsec T5
  go_wp2_with fail
  refine (HTNsec3.out _).mono ?_
  rintro e w12 ⟨⟨v, er6, rfl, ht⟩, y⟩
  have T6 := Hid.mk ht
  obtain ⟨m0, m1, m2, sa6, nx6, v6, _, _, rfl, hi6, hjk⟩ := ht
  obtain ⟨q6, c6, rfl, hjk2⟩ := hi6
  clear hjk hjk2
  replace K := Hid.mk (on_bel K.out y)
  replace D1 := Hid.mk (on_old D1.out y)
  replace R1 := Hid.mk (on_old R1.out y)
  replace D2 := Hid.mk (on_old D2.out y)
  replace R2 := Hid.mk (on_old R2.out y)
  replace D3 := Hid.mk (on_old D3.out y)
  replace R3 := Hid.mk (on_old R3.out y)
  replace D4 := Hid.mk (on_old D4.out y)
  replace R4 := Hid.mk (on_old R4.out y)
  replace D5 := Hid.mk (on_old D5.out y)
  have R5 := Hid.mk (on_new y)
  replace J5 := Hid.mk (J5.out.below (on_self y))
  replace U5 := Hid.mk (U5.out.below (on_self y))
  clear y HTNsec3
  go_wp2_with fail
  refine (HFNsec3.out _).mono ?_
  rintro e w13 ⟨hr, y⟩
  obtain ⟨k0, k1', k2', sa', nx', vj, vu6, l6, ok6, hv, hj6, rfl, hu6, hok, hl6⟩ := sameNsec3 T6.out (on_self y) hr
  have hv2 := congrArg (fun x : Value => match x with | .agg a => a.toList | _ => []) hv
  simp only [List.cons.injEq, Value.string.injEq, Value.int.injEq, and_true, true_and] at hv2
  obtain ⟨h0, h1, h2, rfl, rfl, rfl⟩ := hv2
  rw [← h0, ← h1, ← h2]
  have J6 := Hid.mk hj6
  have U6 := Hid.mk hu6
  have L6 := Hid.mk hl6
  obtain ⟨p6, z6, rfl, hjk⟩ := hu6
  clear hjk
  clear hj6 hl6 hv h0 h1 h2
  have O6 := Hid.mk hok
  replace K := Hid.mk (on_bel K.out y)
  replace D1 := Hid.mk (on_old D1.out y)
  replace R1 := Hid.mk (on_old R1.out y)
  replace D2 := Hid.mk (on_old D2.out y)
  replace R2 := Hid.mk (on_old R2.out y)
  replace D3 := Hid.mk (on_old D3.out y)
  replace R3 := Hid.mk (on_old R3.out y)
  replace D4 := Hid.mk (on_old D4.out y)
  replace R4 := Hid.mk (on_old R4.out y)
  replace D5 := Hid.mk (on_old D5.out y)
  replace R5 := Hid.mk (on_old R5.out y)
  have D6 := Hid.mk (on_new y)
  replace J5 := Hid.mk (J5.out.below (on_self y))
  replace U5 := Hid.mk (U5.out.below (on_self y))
  clear y hr hok HFNsec3 T6
  obtain ⟨z0, z1, z2, z3⟩ := alloc3 w13 (.cells #[.int .i64 ((m0 : Nat) : Int), .int .i64 ((m1 : Nat) : Int), .int .i64 ((m2 : Nat) : Int), .string ⟨sa6.toArray⟩, .string ⟨nx6.toArray⟩, .slice p6 l6.length z6] 56) (.cells #[.int .i64 er1, .int .i64 er2, .int .i64 er3, .int .i64 er4, .int .i64 er5, .int .i64 er6] 25) (.cells #[.bool ok1, .bool ok2, .bool ok3, .bool ok4, .bool ok5, .bool ok6] 4)
  go_wp2
  generalize ((w13.alloc (.cells #[.int .i64 ((m0 : Nat) : Int), .int .i64 ((m1 : Nat) : Int), .int .i64 ((m2 : Nat) : Int), .string ⟨sa6.toArray⟩, .string ⟨nx6.toArray⟩, .slice p6 l6.length z6] 56)).alloc (.cells #[.int .i64 er1, .int .i64 er2, .int .i64 er3, .int .i64 er4, .int .i64 er5, .int .i64 er6] 25)).alloc (.cells #[.bool ok1, .bool ok2, .bool ok3, .bool ok4, .bool ok5, .bool ok6] 4) = Z at z0 z1 z2 z3 ⊢
  replace D1 := Hid.mk ((z0.block _ (box_lt D1.out)).trans D1.out)
  replace R1 := Hid.mk ((z0.block _ (box_lt R1.out)).trans R1.out)
  replace D2 := Hid.mk ((z0.block _ (box_lt D2.out)).trans D2.out)
  replace R2 := Hid.mk ((z0.block _ (box_lt R2.out)).trans R2.out)
  replace D3 := Hid.mk ((z0.block _ (box_lt D3.out)).trans D3.out)
  replace R3 := Hid.mk ((z0.block _ (box_lt R3.out)).trans R3.out)
  replace D4 := Hid.mk ((z0.block _ (box_lt D4.out)).trans D4.out)
  replace R4 := Hid.mk ((z0.block _ (box_lt R4.out)).trans R4.out)
  replace D5 := Hid.mk ((z0.block _ (box_lt D5.out)).trans D5.out)
  replace R5 := Hid.mk ((z0.block _ (box_lt R5.out)).trans R5.out)
  replace D6 := Hid.mk ((z0.block _ (box_lt D6.out)).trans D6.out)
  have R6 := Hid.mk z1
  replace K := Hid.mk (bth K.out z0 K.out.size)
  replace J5 := Hid.mk (J5.out.below z0)
  replace U5 := Hid.mk (U5.out.below z0)
  replace J6 := Hid.mk (J6.out.below z0)
  replace U6 := Hid.mk (U6.out.below z0)
  have HC : Hid (∀ k, k < 6 → ∃ er ok, Z.cell? ⟨w13.heap.size + 1, k, none⟩ = some (.int .i64 er) ∧ Z.cell? ⟨w13.heap.size + 1 + 1, k, none⟩ = some (.bool ok) ∧ er = erOf ok) := fun k hk => by
    rcases (show k = 0 ∨ k = 1 ∨ k = 2 ∨ k = 3 ∨ k = 4 ∨ k = 5 by omega) with rfl | rfl | rfl | rfl | rfl | rfl
    · exact ⟨er1, ok1, (cells_at (j := 0) z2 rfl).1, (cells_at (j := 0) z3 rfl).1, O1.out⟩
    · exact ⟨er2, ok2, (cells_at (j := 1) z2 rfl).1, (cells_at (j := 1) z3 rfl).1, O2.out⟩
    · exact ⟨er3, ok3, (cells_at (j := 2) z2 rfl).1, (cells_at (j := 2) z3 rfl).1, O3.out⟩
    · exact ⟨er4, ok4, (cells_at (j := 3) z2 rfl).1, (cells_at (j := 3) z3 rfl).1, O4.out⟩
    · exact ⟨er5, ok5, (cells_at (j := 4) z2 rfl).1, (cells_at (j := 4) z3 rfl).1, O5.out⟩
    · exact ⟨er6, ok6, (cells_at (j := 5) z2 rfl).1, (cells_at (j := 5) z3 rfl).1, O6.out⟩
  have hE1 := Hid.mk (box_lt z2)
  have hE2 := Hid.mk (box_lt z3)
  clear z0 z1 z2 z3 O1 O2 O3 O4 O5 O6
  go_loopw [30] (fun iv wr => ∃ k : Nat, k ≤ 6 ∧ iv = .int .i64 k ∧ Below Z.heap.size Z wr) (fun iv _ => 6 - (intOf iv).toNat)
  case atStart => exact ⟨0, by omega, rfl, Below.refl _ _⟩
  case round =>
    obtain ⟨k, hk, rfl, hb⟩ := hrel
    by_cases hlt : k < 6
    · obtain ⟨er, ok, c1, c2, he⟩ := HC.out k hlt
      have d1 := (hb.cell (p := ⟨w13.heap.size + 1, k, none⟩) hE1.out).trans c1
      have d2 := (hb.cell (p := ⟨w13.heap.size + 1 + 1, k, none⟩) hE2.out).trans c2
      have hi0 : (0 : Int) ≤ (k : Int) := by omega
      have hi1 : (k : Int) < 6 := by omega
      clear c1 c2
      cases ok with
      | true =>
        have he' : er = 0 := he
        subst he'
        clear he
        go_wp2
        go_quiet (fail)
        go_wp2
        exact ⟨⟨k + 1, by omega, by go_num, bel_drewN hb _⟩, by simp [intOf]; omega⟩
      | false =>
        have he' : er = 6 := he
        subst he'
        clear he
        go_wp2
        go_quiet (fail)
        go_wp2
        exact ⟨⟨k + 1, by omega, by go_num, bel_drewN hb _⟩, by simp [intOf]; omega⟩
    · obtain rfl : k = 6 := by omega
      clear HC hE1 hE2 hk hlt
      replace D1 := Hid.mk ((hb.block _ (box_lt D1.out)).trans D1.out)
      replace R1 := Hid.mk ((hb.block _ (box_lt R1.out)).trans R1.out)
      replace D2 := Hid.mk ((hb.block _ (box_lt D2.out)).trans D2.out)
      replace R2 := Hid.mk ((hb.block _ (box_lt R2.out)).trans R2.out)
      replace D3 := Hid.mk ((hb.block _ (box_lt D3.out)).trans D3.out)
      replace R3 := Hid.mk ((hb.block _ (box_lt R3.out)).trans R3.out)
      replace D4 := Hid.mk ((hb.block _ (box_lt D4.out)).trans D4.out)
      replace R4 := Hid.mk ((hb.block _ (box_lt R4.out)).trans R4.out)
      replace D5 := Hid.mk ((hb.block _ (box_lt D5.out)).trans D5.out)
      replace R5 := Hid.mk ((hb.block _ (box_lt R5.out)).trans R5.out)
      replace D6 := Hid.mk ((hb.block _ (box_lt D6.out)).trans D6.out)
      replace R6 := Hid.mk ((hb.block _ (box_lt R6.out)).trans R6.out)
      replace J5 := Hid.mk (J5.out.below hb)
      replace U5 := Hid.mk (U5.out.below hb)
      replace J6 := Hid.mk (J6.out.below hb)
      replace U6 := Hid.mk (U6.out.below hb)
      replace K := Hid.mk (bth K.out hb K.out.size)
      clear hb
      have e51 := (cells_at (v := .slice q5 _ c5) (j := 1) D5.out rfl).1
      have e52 := (cells_at (v := .slice p5 l5.length z5) (j := 1) R5.out rfl).1
      go_wp2_with fail
      refine (HN.out _ _ _ l5 J5.out U5.out L5.out).mono ?_
      rintro e w14 ⟨rfl, y⟩
      replace D1 := Hid.mk ((y.block _ (box_lt D1.out)).trans D1.out)
      replace R1 := Hid.mk ((y.block _ (box_lt R1.out)).trans R1.out)
      replace D2 := Hid.mk ((y.block _ (box_lt D2.out)).trans D2.out)
      replace R2 := Hid.mk ((y.block _ (box_lt R2.out)).trans R2.out)
      replace D3 := Hid.mk ((y.block _ (box_lt D3.out)).trans D3.out)
      replace R3 := Hid.mk ((y.block _ (box_lt R3.out)).trans R3.out)
      replace D4 := Hid.mk ((y.block _ (box_lt D4.out)).trans D4.out)
      replace R4 := Hid.mk ((y.block _ (box_lt R4.out)).trans R4.out)
      replace D5 := Hid.mk ((y.block _ (box_lt D5.out)).trans D5.out)
      replace R5 := Hid.mk ((y.block _ (box_lt R5.out)).trans R5.out)
      replace D6 := Hid.mk ((y.block _ (box_lt D6.out)).trans D6.out)
      replace R6 := Hid.mk ((y.block _ (box_lt R6.out)).trans R6.out)
      replace J6 := Hid.mk (J6.out.below y)
      replace U6 := Hid.mk (U6.out.below y)
      replace K := Hid.mk (bth K.out y K.out.size)
      clear y e51 e52 J5 U5 L5
      have e61 := (cells_at (v := .slice q6 _ c6) (j := 5) D6.out rfl).1
      have e62 := (cells_at (v := .slice p6 l6.length z6) (j := 5) R6.out rfl).1
      go_wp2_with fail
      refine (HN.out _ _ _ l6 J6.out U6.out L6.out).mono ?_
      rintro e w15 ⟨rfl, y⟩
      replace D1 := Hid.mk ((y.block _ (box_lt D1.out)).trans D1.out)
      replace R1 := Hid.mk ((y.block _ (box_lt R1.out)).trans R1.out)
      replace D2 := Hid.mk ((y.block _ (box_lt D2.out)).trans D2.out)
      replace R2 := Hid.mk ((y.block _ (box_lt R2.out)).trans R2.out)
      replace D3 := Hid.mk ((y.block _ (box_lt D3.out)).trans D3.out)
      replace R3 := Hid.mk ((y.block _ (box_lt R3.out)).trans R3.out)
      replace D4 := Hid.mk ((y.block _ (box_lt D4.out)).trans D4.out)
      replace R4 := Hid.mk ((y.block _ (box_lt R4.out)).trans R4.out)
      replace D5 := Hid.mk ((y.block _ (box_lt D5.out)).trans D5.out)
      replace R5 := Hid.mk ((y.block _ (box_lt R5.out)).trans R5.out)
      replace D6 := Hid.mk ((y.block _ (box_lt D6.out)).trans D6.out)
      replace R6 := Hid.mk ((y.block _ (box_lt R6.out)).trans R6.out)
      replace K := Hid.mk (bth K.out y K.out.size)
      clear y e61 e62 J6 U6 L6 HN
      have cD10 := (cells_at (v := .string x1s0) (j := 0) D1.out rfl).1
      have cR10 := (cells_at (v := .string x1s0) (j := 0) R1.out rfl).1
      have cD11 := (cells_at (v := .string x1s1) (j := 1) D1.out rfl).1
      have cR11 := (cells_at (v := .string x1s1) (j := 1) R1.out rfl).1
      have cD12 := (cells_at (v := .int .i64 ((x1n2 : Nat) : Int)) (j := 2) D1.out rfl).1
      have cR12 := (cells_at (v := .int .i64 ((x1n2 : Nat) : Int)) (j := 2) R1.out rfl).1
      have cD13 := (cells_at (v := .int .i64 ((x1n3 : Nat) : Int)) (j := 3) D1.out rfl).1
      have cR13 := (cells_at (v := .int .i64 ((x1n3 : Nat) : Int)) (j := 3) R1.out rfl).1
      have cD14 := (cells_at (v := .int .i64 ((x1n4 : Nat) : Int)) (j := 4) D1.out rfl).1
      have cR14 := (cells_at (v := .int .i64 ((x1n4 : Nat) : Int)) (j := 4) R1.out rfl).1
      have cD15 := (cells_at (v := .int .i64 ((x1n5 : Nat) : Int)) (j := 5) D1.out rfl).1
      have cR15 := (cells_at (v := .int .i64 ((x1n5 : Nat) : Int)) (j := 5) R1.out rfl).1
      have cD16 := (cells_at (v := .int .i64 ((x1n6 : Nat) : Int)) (j := 6) D1.out rfl).1
      have cR16 := (cells_at (v := .int .i64 ((x1n6 : Nat) : Int)) (j := 6) R1.out rfl).1
      have cD20 := (cells_at (v := .int .i64 ((x2n0 : Nat) : Int)) (j := 0) D2.out rfl).1
      have cR20 := (cells_at (v := .int .i64 ((x2n0 : Nat) : Int)) (j := 0) R2.out rfl).1
      have cD21 := (cells_at (v := .int .i64 ((x2n1 : Nat) : Int)) (j := 1) D2.out rfl).1
      have cR21 := (cells_at (v := .int .i64 ((x2n1 : Nat) : Int)) (j := 1) R2.out rfl).1
      have cD22 := (cells_at (v := .int .i64 ((x2n2 : Nat) : Int)) (j := 2) D2.out rfl).1
      have cR22 := (cells_at (v := .int .i64 ((x2n2 : Nat) : Int)) (j := 2) R2.out rfl).1
      have cD23 := (cells_at (v := .int .i64 ((x2n3 : Nat) : Int)) (j := 3) D2.out rfl).1
      have cR23 := (cells_at (v := .int .i64 ((x2n3 : Nat) : Int)) (j := 3) R2.out rfl).1
      have cD24 := (cells_at (v := .int .i64 ((x2n4 : Nat) : Int)) (j := 4) D2.out rfl).1
      have cR24 := (cells_at (v := .int .i64 ((x2n4 : Nat) : Int)) (j := 4) R2.out rfl).1
      have cD25 := (cells_at (v := .int .i64 ((x2n5 : Nat) : Int)) (j := 5) D2.out rfl).1
      have cR25 := (cells_at (v := .int .i64 ((x2n5 : Nat) : Int)) (j := 5) R2.out rfl).1
      have cD26 := (cells_at (v := .int .i64 ((x2n6 : Nat) : Int)) (j := 6) D2.out rfl).1
      have cR26 := (cells_at (v := .int .i64 ((x2n6 : Nat) : Int)) (j := 6) R2.out rfl).1
      have cD27 := (cells_at (v := .string x2s7) (j := 7) D2.out rfl).1
      have cR27 := (cells_at (v := .string x2s7) (j := 7) R2.out rfl).1
      have cD28 := (cells_at (v := .string x2s8) (j := 8) D2.out rfl).1
      have cR28 := (cells_at (v := .string x2s8) (j := 8) R2.out rfl).1
      have cD30 := (cells_at (v := .int .i64 ((x3n0 : Nat) : Int)) (j := 0) D3.out rfl).1
      have cR30 := (cells_at (v := .int .i64 ((x3n0 : Nat) : Int)) (j := 0) R3.out rfl).1
      have cD31 := (cells_at (v := .int .i64 ((x3n1 : Nat) : Int)) (j := 1) D3.out rfl).1
      have cR31 := (cells_at (v := .int .i64 ((x3n1 : Nat) : Int)) (j := 1) R3.out rfl).1
      have cD32 := (cells_at (v := .int .i64 ((x3n2 : Nat) : Int)) (j := 2) D3.out rfl).1
      have cR32 := (cells_at (v := .int .i64 ((x3n2 : Nat) : Int)) (j := 2) R3.out rfl).1
      have cD33 := (cells_at (v := .string x3s3) (j := 3) D3.out rfl).1
      have cR33 := (cells_at (v := .string x3s3) (j := 3) R3.out rfl).1
      have cD40 := (cells_at (v := .int .i64 ((x4n0 : Nat) : Int)) (j := 0) D4.out rfl).1
      have cR40 := (cells_at (v := .int .i64 ((x4n0 : Nat) : Int)) (j := 0) R4.out rfl).1
      have cD41 := (cells_at (v := .int .i64 ((x4n1 : Nat) : Int)) (j := 1) D4.out rfl).1
      have cR41 := (cells_at (v := .int .i64 ((x4n1 : Nat) : Int)) (j := 1) R4.out rfl).1
      have cD42 := (cells_at (v := .int .i64 ((x4n2 : Nat) : Int)) (j := 2) D4.out rfl).1
      have cR42 := (cells_at (v := .int .i64 ((x4n2 : Nat) : Int)) (j := 2) R4.out rfl).1
      have cD43 := (cells_at (v := .string x4s3) (j := 3) D4.out rfl).1
      have cR43 := (cells_at (v := .string x4s3) (j := 3) R4.out rfl).1
      have cD50 := (cells_at (v := .string nx5) (j := 0) D5.out rfl).1
      have cR50 := (cells_at (v := .string nx5) (j := 0) R5.out rfl).1
      have cD60 := (cells_at (v := .int .i64 ((m0 : Nat) : Int)) (j := 0) D6.out rfl).1
      have cR60 := (cells_at (v := .int .i64 ((m0 : Nat) : Int)) (j := 0) R6.out rfl).1
      have cD61 := (cells_at (v := .int .i64 ((m1 : Nat) : Int)) (j := 1) D6.out rfl).1
      have cR61 := (cells_at (v := .int .i64 ((m1 : Nat) : Int)) (j := 1) R6.out rfl).1
      have cD62 := (cells_at (v := .int .i64 ((m2 : Nat) : Int)) (j := 2) D6.out rfl).1
      have cR62 := (cells_at (v := .int .i64 ((m2 : Nat) : Int)) (j := 2) R6.out rfl).1
      have cD63 := (cells_at (v := .string ⟨sa6.toArray⟩) (j := 3) D6.out rfl).1
      have cR63 := (cells_at (v := .string ⟨sa6.toArray⟩) (j := 3) R6.out rfl).1
      have cD64 := (cells_at (v := .string ⟨nx6.toArray⟩) (j := 4) D6.out rfl).1
      have cR64 := (cells_at (v := .string ⟨nx6.toArray⟩) (j := 4) R6.out rfl).1
      clear D1 R1 D2 R2 D3 R3 D4 R4 D5 R5 D6 R6
      go_wp2
      go_ret
      exact ⟨rfl, K.out⟩
end Go.Proofs.YtdhcbaennpediaaGreatDoor
