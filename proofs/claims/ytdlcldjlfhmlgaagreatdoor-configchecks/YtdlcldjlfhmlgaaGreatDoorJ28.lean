/- Texts of this proof, joined: DRefSig, DRefKey, DRefDs, DTyFacts, DTyAdd, DTyAdd2. -/
import Derived.Test.YtdlcldjlfhmlgaaGreatDoorJ27
import Derived.Test.YtdlcldjlfhmlgaaGreatDoorJ7
import Derived.Test.YtdlcldjlfhmlgaaGreatDoorJ9
import Derived.BigRegion
import Derived.Deep.RegionHeld3
import Derived.Test.YtdlcldjlfhmlgaaGreatDoorJ26
set_option linter.unusedVariables false
set_option linter.unusedSimpArgs false
/- Sig, as the document's own function takes it apart. -/
namespace Go.Proofs.YtdlcldjlfhmlgaaGreatDoor
open Go.RowKit
def RefSigPost (d : ByteArray) (e : Ending) : Prop := ((∃ t0 t1 t2 t3 t4 t5 t6 t7 t8 : ByteArray, splitR 46 d = some [t0, t1, t2, t3, t4, t5, t6, t7, t8] ∧ e = .returned (.tuple #[.agg #[.int .i64 ((numB t0.data.toList : Nat) : Int), .int .i64 ((numB t1.data.toList : Nat) : Int), .int .i64 ((numB t2.data.toList : Nat) : Int), .int .i64 ((numB t3.data.toList : Nat) : Int), .int .i64 ((numB t4.data.toList : Nat) : Int), .int .i64 ((numB t5.data.toList : Nat) : Int), .int .i64 ((numB t6.data.toList : Nat) : Int), .string t7, .string t8], .bool true])) ∨ (splitR 46 d = none ∧ e = .returned (.tuple #[.agg #[.int .i64 0, .int .i64 0, .int .i64 0, .int .i64 0, .int .i64 0, .int .i64 0, .int .i64 0, .string ⟨#[]⟩, .string ⟨#[]⟩], .bool false])))
set_option maxRecDepth 100000 in
set_option maxHeartbeats 8000000 in
theorem refSig_in (d : ByteArray) (hd : d.size ≤ 140737488355328) (W : World) :
  Calls Tryz.prog 69 #[.string d] W fun e w' => RefSigPost d e ∧ Below W.heap.size W w' := by
 have hmo : Tryz.prog.follows Departure.mixedOrders = true := by kernel_rfl
 have Q := Hid.mk (S0.first W 120 #[.int .i64 0, .int .i64 0, .int .i64 0, .int .i64 0, .int .i64 0, .int .i64 0, .int .i64 0, .string ⟨#[]⟩, .string ⟨#[]⟩] d)
 obtain ⟨r0, hr0⟩ : ∃ r0, r0 = d := ⟨_, rfl⟩
 have hz0 : r0.size ≤ 140737488355328 := by rw [hr0]; exact hd
 rw [show S0 W ((W.alloc (.cells #[.int .i64 0, .int .i64 0, .int .i64 0, .int .i64 0, .int .i64 0, .int .i64 0, .int .i64 0, .string ⟨#[]⟩, .string ⟨#[]⟩] 120)).alloc (.cells #[.string d, .bool false] 149)) W.heap.size (W.heap.size + 1) d false 120 #[.int .i64 0, .int .i64 0, .int .i64 0, .int .i64 0, .int .i64 0, .int .i64 0, .int .i64 0, .string ⟨#[]⟩, .string ⟨#[]⟩] = S0 W ((W.alloc (.cells #[.int .i64 0, .int .i64 0, .int .i64 0, .int .i64 0, .int .i64 0, .int .i64 0, .int .i64 0, .string ⟨#[]⟩, .string ⟨#[]⟩] 120)).alloc (.cells #[.string d, .bool false] 149)) W.heap.size (W.heap.size + 1) r0 false 120 #[.int .i64 0, .int .i64 0, .int .i64 0, .int .i64 0, .int .i64 0, .int .i64 0, .int .i64 0, .string ⟨#[]⟩, .string ⟨#[]⟩] by rw [hr0]] at Q
 have HR0 := Hid.mk hr0
 clear hr0
 go_enter Tryz.func69, Tryz.ntmps69
 go_wp2_with fail
 refine (rNum_post .type 2 (fun _ => rfl) (by omega) _ (W.heap.size + 1) r0 false hz0 Q.out.rr).mono ?_
 rintro e w1 ⟨t0, r1, b1, rfl, hr, hk, hs0, hz⟩
 have hz1 : r1.size ≤ 140737488355328 := by omega
 replace Q := Hid.mk (Q.out.call hr hk)
 have P0 := Hid.mk hs0
 clear hr hk hs0 hz hz0
 replace Q := Hid.mk (Q.out.new #[.int .i64 ((numB t0.data.toList : Nat) : Int), .int .i64 0, .int .i64 0, .int .i64 0, .int .i64 0, .int .i64 0, .int .i64 0, .string ⟨#[]⟩, .string ⟨#[]⟩])
 go_wp2_with fail
 refine (rNum_post (.num 1) 1 (fun _ => rfl) (by omega) _ (W.heap.size + 1) r1 b1 hz1 Q.out.s.rr).mono ?_
 rintro e w2 ⟨t1, r2, b2, rfl, hr, hk, hs1, hz⟩
 have hz2 : r2.size ≤ 140737488355328 := by omega
 replace Q := Hid.mk (Q.out.call hr hk)
 have P1 := Hid.mk hs1
 clear hr hk hs1 hz hz1
 obtain ⟨g1, f1⟩ := cells_at (v := .int .i64 0) (j := 1) Q.out.x rfl
 replace Q : Hid (S1 W (w2.setCell ⟨w1.heap.size, 1, none⟩ (.int .i64 ((numB t1.data.toList : Nat) : Int))) W.heap.size (W.heap.size + 1) w1.heap.size r2 b2 120 #[.int .i64 0, .int .i64 0, .int .i64 0, .int .i64 0, .int .i64 0, .int .i64 0, .int .i64 0, .string ⟨#[]⟩, .string ⟨#[]⟩] #[.int .i64 ((numB t0.data.toList : Nat) : Int), .int .i64 ((numB t1.data.toList : Nat) : Int), .int .i64 0, .int .i64 0, .int .i64 0, .int .i64 0, .int .i64 0, .string ⟨#[]⟩, .string ⟨#[]⟩]) := Q.out.put 1 (.int .i64 ((numB t1.data.toList : Nat) : Int))
 go_wp2_with fail
 refine (rNum_post (.num 1) 1 (fun _ => rfl) (by omega) _ (W.heap.size + 1) r2 b2 hz2 Q.out.s.rr).mono ?_
 rintro e w3 ⟨t2, r3, b3, rfl, hr, hk, hs2, hz⟩
 have hz3 : r3.size ≤ 140737488355328 := by omega
 replace Q := Hid.mk (Q.out.call hr hk)
 have P2 := Hid.mk hs2
 clear hr hk hs2 hz hz2
 obtain ⟨g2, f2⟩ := cells_at (v := .int .i64 0) (j := 2) Q.out.x rfl
 replace Q : Hid (S1 W (w3.setCell ⟨w1.heap.size, 2, none⟩ (.int .i64 ((numB t2.data.toList : Nat) : Int))) W.heap.size (W.heap.size + 1) w1.heap.size r3 b3 120 #[.int .i64 0, .int .i64 0, .int .i64 0, .int .i64 0, .int .i64 0, .int .i64 0, .int .i64 0, .string ⟨#[]⟩, .string ⟨#[]⟩] #[.int .i64 ((numB t0.data.toList : Nat) : Int), .int .i64 ((numB t1.data.toList : Nat) : Int), .int .i64 ((numB t2.data.toList : Nat) : Int), .int .i64 0, .int .i64 0, .int .i64 0, .int .i64 0, .string ⟨#[]⟩, .string ⟨#[]⟩]) := Q.out.put 2 (.int .i64 ((numB t2.data.toList : Nat) : Int))
 go_wp2_with fail
 refine (rNum_post (.num 4) 4 (fun _ => rfl) (by omega) _ (W.heap.size + 1) r3 b3 hz3 Q.out.s.rr).mono ?_
 rintro e w4 ⟨t3, r4, b4, rfl, hr, hk, hs3, hz⟩
 have hz4 : r4.size ≤ 140737488355328 := by omega
 replace Q := Hid.mk (Q.out.call hr hk)
 have P3 := Hid.mk hs3
 clear hr hk hs3 hz hz3
 obtain ⟨g3, f3⟩ := cells_at (v := .int .i64 0) (j := 3) Q.out.x rfl
 replace Q : Hid (S1 W (w4.setCell ⟨w1.heap.size, 3, none⟩ (.int .i64 ((numB t3.data.toList : Nat) : Int))) W.heap.size (W.heap.size + 1) w1.heap.size r4 b4 120 #[.int .i64 0, .int .i64 0, .int .i64 0, .int .i64 0, .int .i64 0, .int .i64 0, .int .i64 0, .string ⟨#[]⟩, .string ⟨#[]⟩] #[.int .i64 ((numB t0.data.toList : Nat) : Int), .int .i64 ((numB t1.data.toList : Nat) : Int), .int .i64 ((numB t2.data.toList : Nat) : Int), .int .i64 ((numB t3.data.toList : Nat) : Int), .int .i64 0, .int .i64 0, .int .i64 0, .string ⟨#[]⟩, .string ⟨#[]⟩]) := Q.out.put 3 (.int .i64 ((numB t3.data.toList : Nat) : Int))
 go_wp2_with fail
 refine (rNum_post (.num 4) 4 (fun _ => rfl) (by omega) _ (W.heap.size + 1) r4 b4 hz4 Q.out.s.rr).mono ?_
 rintro e w5 ⟨t4, r5, b5, rfl, hr, hk, hs4, hz⟩
 have hz5 : r5.size ≤ 140737488355328 := by omega
 replace Q := Hid.mk (Q.out.call hr hk)
 have P4 := Hid.mk hs4
 clear hr hk hs4 hz hz4
 obtain ⟨g4, f4⟩ := cells_at (v := .int .i64 0) (j := 4) Q.out.x rfl
 replace Q : Hid (S1 W (w5.setCell ⟨w1.heap.size, 4, none⟩ (.int .i64 ((numB t4.data.toList : Nat) : Int))) W.heap.size (W.heap.size + 1) w1.heap.size r5 b5 120 #[.int .i64 0, .int .i64 0, .int .i64 0, .int .i64 0, .int .i64 0, .int .i64 0, .int .i64 0, .string ⟨#[]⟩, .string ⟨#[]⟩] #[.int .i64 ((numB t0.data.toList : Nat) : Int), .int .i64 ((numB t1.data.toList : Nat) : Int), .int .i64 ((numB t2.data.toList : Nat) : Int), .int .i64 ((numB t3.data.toList : Nat) : Int), .int .i64 ((numB t4.data.toList : Nat) : Int), .int .i64 0, .int .i64 0, .string ⟨#[]⟩, .string ⟨#[]⟩]) := Q.out.put 4 (.int .i64 ((numB t4.data.toList : Nat) : Int))
 go_wp2_with fail
 refine (rNum_post (.num 4) 4 (fun _ => rfl) (by omega) _ (W.heap.size + 1) r5 b5 hz5 Q.out.s.rr).mono ?_
 rintro e w6 ⟨t5, r6, b6, rfl, hr, hk, hs5, hz⟩
 have hz6 : r6.size ≤ 140737488355328 := by omega
 replace Q := Hid.mk (Q.out.call hr hk)
 have P5 := Hid.mk hs5
 clear hr hk hs5 hz hz5
 obtain ⟨g5, f5⟩ := cells_at (v := .int .i64 0) (j := 5) Q.out.x rfl
 replace Q : Hid (S1 W (w6.setCell ⟨w1.heap.size, 5, none⟩ (.int .i64 ((numB t5.data.toList : Nat) : Int))) W.heap.size (W.heap.size + 1) w1.heap.size r6 b6 120 #[.int .i64 0, .int .i64 0, .int .i64 0, .int .i64 0, .int .i64 0, .int .i64 0, .int .i64 0, .string ⟨#[]⟩, .string ⟨#[]⟩] #[.int .i64 ((numB t0.data.toList : Nat) : Int), .int .i64 ((numB t1.data.toList : Nat) : Int), .int .i64 ((numB t2.data.toList : Nat) : Int), .int .i64 ((numB t3.data.toList : Nat) : Int), .int .i64 ((numB t4.data.toList : Nat) : Int), .int .i64 ((numB t5.data.toList : Nat) : Int), .int .i64 0, .string ⟨#[]⟩, .string ⟨#[]⟩]) := Q.out.put 5 (.int .i64 ((numB t5.data.toList : Nat) : Int))
 go_wp2_with fail
 refine (rNum_post (.num 2) 2 (fun _ => rfl) (by omega) _ (W.heap.size + 1) r6 b6 hz6 Q.out.s.rr).mono ?_
 rintro e w7 ⟨t6, r7, b7, rfl, hr, hk, hs6, hz⟩
 have hz7 : r7.size ≤ 140737488355328 := by omega
 replace Q := Hid.mk (Q.out.call hr hk)
 have P6 := Hid.mk hs6
 clear hr hk hs6 hz hz6
 obtain ⟨g6, f6⟩ := cells_at (v := .int .i64 0) (j := 6) Q.out.x rfl
 replace Q : Hid (S1 W (w7.setCell ⟨w1.heap.size, 6, none⟩ (.int .i64 ((numB t6.data.toList : Nat) : Int))) W.heap.size (W.heap.size + 1) w1.heap.size r7 b7 120 #[.int .i64 0, .int .i64 0, .int .i64 0, .int .i64 0, .int .i64 0, .int .i64 0, .int .i64 0, .string ⟨#[]⟩, .string ⟨#[]⟩] #[.int .i64 ((numB t0.data.toList : Nat) : Int), .int .i64 ((numB t1.data.toList : Nat) : Int), .int .i64 ((numB t2.data.toList : Nat) : Int), .int .i64 ((numB t3.data.toList : Nat) : Int), .int .i64 ((numB t4.data.toList : Nat) : Int), .int .i64 ((numB t5.data.toList : Nat) : Int), .int .i64 ((numB t6.data.toList : Nat) : Int), .string ⟨#[]⟩, .string ⟨#[]⟩]) := Q.out.put 6 (.int .i64 ((numB t6.data.toList : Nat) : Int))
 go_wp2_with fail
 refine (rName_in _ (W.heap.size + 1) r7 b7 hz7 Q.out.s.rr).mono ?_
 rintro e w8 ⟨t7, r8, b8, rfl, hr, hk, hs7, hz⟩
 have hz8 : r8.size ≤ 140737488355328 := by omega
 replace Q := Hid.mk (Q.out.call hr hk)
 have P7 := Hid.mk hs7
 clear hr hk hs7 hz hz7
 obtain ⟨g7, f7⟩ := cells_at (v := .string ⟨#[]⟩) (j := 7) Q.out.x rfl
 replace Q : Hid (S1 W (w8.setCell ⟨w1.heap.size, 7, none⟩ (.string t7)) W.heap.size (W.heap.size + 1) w1.heap.size r8 b8 120 #[.int .i64 0, .int .i64 0, .int .i64 0, .int .i64 0, .int .i64 0, .int .i64 0, .int .i64 0, .string ⟨#[]⟩, .string ⟨#[]⟩] #[.int .i64 ((numB t0.data.toList : Nat) : Int), .int .i64 ((numB t1.data.toList : Nat) : Int), .int .i64 ((numB t2.data.toList : Nat) : Int), .int .i64 ((numB t3.data.toList : Nat) : Int), .int .i64 ((numB t4.data.toList : Nat) : Int), .int .i64 ((numB t5.data.toList : Nat) : Int), .int .i64 ((numB t6.data.toList : Nat) : Int), .string t7, .string ⟨#[]⟩]) := Q.out.put 7 (.string t7)
 go_wp2_with fail
 refine (rAll_post _ (W.heap.size + 1) r8 b8 hz8 Q.out.s.rr).mono ?_
 rintro e w9 ⟨r9, b9, rfl, hr, hk, hs8, hz⟩
 have hz9 : r9.size ≤ 140737488355328 := by omega
 replace Q := Hid.mk (Q.out.call hr hk)
 have P8 := Hid.mk hs8
 have HZ := Hid.mk hz
 clear hr hk hs8 hz hz8
 obtain ⟨g8, f8⟩ := cells_at (v := .string ⟨#[]⟩) (j := 8) Q.out.x rfl
 replace Q : Hid (S1 W (w9.setCell ⟨w1.heap.size, 8, none⟩ (.string r8)) W.heap.size (W.heap.size + 1) w1.heap.size r9 b9 120 #[.int .i64 0, .int .i64 0, .int .i64 0, .int .i64 0, .int .i64 0, .int .i64 0, .int .i64 0, .string ⟨#[]⟩, .string ⟨#[]⟩] #[.int .i64 ((numB t0.data.toList : Nat) : Int), .int .i64 ((numB t1.data.toList : Nat) : Int), .int .i64 ((numB t2.data.toList : Nat) : Int), .int .i64 ((numB t3.data.toList : Nat) : Int), .int .i64 ((numB t4.data.toList : Nat) : Int), .int .i64 ((numB t5.data.toList : Nat) : Int), .int .i64 ((numB t6.data.toList : Nat) : Int), .string t7, .string r8]) := Q.out.put 8 (.string r8)
 have HC : Hid (Chn (formOf 46) r0 false [t0, t1, t2, t3, t4, t5, t6, t7, r8] r9 b9) := (Chn.cons P0.out (Chn.cons P1.out (Chn.cons P2.out (Chn.cons P3.out (Chn.cons P4.out (Chn.cons P5.out (Chn.cons P6.out (Chn.cons P7.out (Chn.cons P8.out Chn.nil)))))))))
 have HSP := Hid.mk (HC.out.split (by omega))
 rw [HR0.out] at HSP
 clear HC P0 P1 P2 P3 P4 P5 P6 P7 P8
 obtain ⟨u0, v0⟩ := Q.out.s.rr.c0
 obtain ⟨u1, v1⟩ := Q.out.s.rr.c1
 obtain ⟨x0, y0⟩ := cells_at (v := .int .i64 ((numB t0.data.toList : Nat) : Int)) (j := 0) Q.out.x rfl
 obtain ⟨x1, y1⟩ := cells_at (v := .int .i64 ((numB t1.data.toList : Nat) : Int)) (j := 1) Q.out.x rfl
 obtain ⟨x2, y2⟩ := cells_at (v := .int .i64 ((numB t2.data.toList : Nat) : Int)) (j := 2) Q.out.x rfl
 obtain ⟨x3, y3⟩ := cells_at (v := .int .i64 ((numB t3.data.toList : Nat) : Int)) (j := 3) Q.out.x rfl
 obtain ⟨x4, y4⟩ := cells_at (v := .int .i64 ((numB t4.data.toList : Nat) : Int)) (j := 4) Q.out.x rfl
 obtain ⟨x5, y5⟩ := cells_at (v := .int .i64 ((numB t5.data.toList : Nat) : Int)) (j := 5) Q.out.x rfl
 obtain ⟨x6, y6⟩ := cells_at (v := .int .i64 ((numB t6.data.toList : Nat) : Int)) (j := 6) Q.out.x rfl
 obtain ⟨x7, y7⟩ := cells_at (v := .string t7) (j := 7) Q.out.x rfl
 obtain ⟨x8, y8⟩ := cells_at (v := .string r8) (j := 8) Q.out.x rfl
 obtain ⟨a0, c0⟩ := cells_at (v := .int .i64 0) (j := 0) Q.out.s.res rfl
 obtain ⟨a1, c1⟩ := cells_at (v := .int .i64 0) (j := 1) Q.out.s.res rfl
 obtain ⟨a2, c2⟩ := cells_at (v := .int .i64 0) (j := 2) Q.out.s.res rfl
 obtain ⟨a3, c3⟩ := cells_at (v := .int .i64 0) (j := 3) Q.out.s.res rfl
 obtain ⟨a4, c4⟩ := cells_at (v := .int .i64 0) (j := 4) Q.out.s.res rfl
 obtain ⟨a5, c5⟩ := cells_at (v := .int .i64 0) (j := 5) Q.out.s.res rfl
 obtain ⟨a6, c6⟩ := cells_at (v := .int .i64 0) (j := 6) Q.out.s.res rfl
 obtain ⟨a7, c7⟩ := cells_at (v := .string ⟨#[]⟩) (j := 7) Q.out.s.res rfl
 obtain ⟨a8, c8⟩ := cells_at (v := .string ⟨#[]⟩) (j := 8) Q.out.s.res rfl
 clear g1 f1 g2 f2 g3 f3 g4 f4 g5 f5 g6 f6 g7 f7
 rcases HSP.out with ⟨e1, e2, e3, e4⟩ | ⟨e1, e4⟩
 ·have HE := Hid.mk e4
  subst e1
  clear e4 HSP
  go_wp2
  have st0 : ((w9.setCell ⟨w1.heap.size, 8, none⟩ (.string r8)).setCell ⟨W.heap.size, 0, none⟩ (.int .i64 ((numB t0.data.toList : Nat) : Int))).heap[W.heap.size]? = some (.cells #[.int .i64 ((numB t0.data.toList : Nat) : Int), .int .i64 0, .int .i64 0, .int .i64 0, .int .i64 0, .int .i64 0, .int .i64 0, .string ⟨#[]⟩, .string ⟨#[]⟩] 120 (0, 0)) := cells_put (j := 0) Q.out.s.res (.int .i64 ((numB t0.data.toList : Nat) : Int))
  have st1 : (((w9.setCell ⟨w1.heap.size, 8, none⟩ (.string r8)).setCell ⟨W.heap.size, 0, none⟩ (.int .i64 ((numB t0.data.toList : Nat) : Int))).setCell ⟨W.heap.size, 1, none⟩ (.int .i64 ((numB t1.data.toList : Nat) : Int))).heap[W.heap.size]? = some (.cells #[.int .i64 ((numB t0.data.toList : Nat) : Int), .int .i64 ((numB t1.data.toList : Nat) : Int), .int .i64 0, .int .i64 0, .int .i64 0, .int .i64 0, .int .i64 0, .string ⟨#[]⟩, .string ⟨#[]⟩] 120 (0, 0)) := cells_put (j := 1) st0 (.int .i64 ((numB t1.data.toList : Nat) : Int))
  have st2 : ((((w9.setCell ⟨w1.heap.size, 8, none⟩ (.string r8)).setCell ⟨W.heap.size, 0, none⟩ (.int .i64 ((numB t0.data.toList : Nat) : Int))).setCell ⟨W.heap.size, 1, none⟩ (.int .i64 ((numB t1.data.toList : Nat) : Int))).setCell ⟨W.heap.size, 2, none⟩ (.int .i64 ((numB t2.data.toList : Nat) : Int))).heap[W.heap.size]? = some (.cells #[.int .i64 ((numB t0.data.toList : Nat) : Int), .int .i64 ((numB t1.data.toList : Nat) : Int), .int .i64 ((numB t2.data.toList : Nat) : Int), .int .i64 0, .int .i64 0, .int .i64 0, .int .i64 0, .string ⟨#[]⟩, .string ⟨#[]⟩] 120 (0, 0)) := cells_put (j := 2) st1 (.int .i64 ((numB t2.data.toList : Nat) : Int))
  have st3 : (((((w9.setCell ⟨w1.heap.size, 8, none⟩ (.string r8)).setCell ⟨W.heap.size, 0, none⟩ (.int .i64 ((numB t0.data.toList : Nat) : Int))).setCell ⟨W.heap.size, 1, none⟩ (.int .i64 ((numB t1.data.toList : Nat) : Int))).setCell ⟨W.heap.size, 2, none⟩ (.int .i64 ((numB t2.data.toList : Nat) : Int))).setCell ⟨W.heap.size, 3, none⟩ (.int .i64 ((numB t3.data.toList : Nat) : Int))).heap[W.heap.size]? = some (.cells #[.int .i64 ((numB t0.data.toList : Nat) : Int), .int .i64 ((numB t1.data.toList : Nat) : Int), .int .i64 ((numB t2.data.toList : Nat) : Int), .int .i64 ((numB t3.data.toList : Nat) : Int), .int .i64 0, .int .i64 0, .int .i64 0, .string ⟨#[]⟩, .string ⟨#[]⟩] 120 (0, 0)) := cells_put (j := 3) st2 (.int .i64 ((numB t3.data.toList : Nat) : Int))
  have st4 : ((((((w9.setCell ⟨w1.heap.size, 8, none⟩ (.string r8)).setCell ⟨W.heap.size, 0, none⟩ (.int .i64 ((numB t0.data.toList : Nat) : Int))).setCell ⟨W.heap.size, 1, none⟩ (.int .i64 ((numB t1.data.toList : Nat) : Int))).setCell ⟨W.heap.size, 2, none⟩ (.int .i64 ((numB t2.data.toList : Nat) : Int))).setCell ⟨W.heap.size, 3, none⟩ (.int .i64 ((numB t3.data.toList : Nat) : Int))).setCell ⟨W.heap.size, 4, none⟩ (.int .i64 ((numB t4.data.toList : Nat) : Int))).heap[W.heap.size]? = some (.cells #[.int .i64 ((numB t0.data.toList : Nat) : Int), .int .i64 ((numB t1.data.toList : Nat) : Int), .int .i64 ((numB t2.data.toList : Nat) : Int), .int .i64 ((numB t3.data.toList : Nat) : Int), .int .i64 ((numB t4.data.toList : Nat) : Int), .int .i64 0, .int .i64 0, .string ⟨#[]⟩, .string ⟨#[]⟩] 120 (0, 0)) := cells_put (j := 4) st3 (.int .i64 ((numB t4.data.toList : Nat) : Int))
  have st5 : (((((((w9.setCell ⟨w1.heap.size, 8, none⟩ (.string r8)).setCell ⟨W.heap.size, 0, none⟩ (.int .i64 ((numB t0.data.toList : Nat) : Int))).setCell ⟨W.heap.size, 1, none⟩ (.int .i64 ((numB t1.data.toList : Nat) : Int))).setCell ⟨W.heap.size, 2, none⟩ (.int .i64 ((numB t2.data.toList : Nat) : Int))).setCell ⟨W.heap.size, 3, none⟩ (.int .i64 ((numB t3.data.toList : Nat) : Int))).setCell ⟨W.heap.size, 4, none⟩ (.int .i64 ((numB t4.data.toList : Nat) : Int))).setCell ⟨W.heap.size, 5, none⟩ (.int .i64 ((numB t5.data.toList : Nat) : Int))).heap[W.heap.size]? = some (.cells #[.int .i64 ((numB t0.data.toList : Nat) : Int), .int .i64 ((numB t1.data.toList : Nat) : Int), .int .i64 ((numB t2.data.toList : Nat) : Int), .int .i64 ((numB t3.data.toList : Nat) : Int), .int .i64 ((numB t4.data.toList : Nat) : Int), .int .i64 ((numB t5.data.toList : Nat) : Int), .int .i64 0, .string ⟨#[]⟩, .string ⟨#[]⟩] 120 (0, 0)) := cells_put (j := 5) st4 (.int .i64 ((numB t5.data.toList : Nat) : Int))
  have st6 : ((((((((w9.setCell ⟨w1.heap.size, 8, none⟩ (.string r8)).setCell ⟨W.heap.size, 0, none⟩ (.int .i64 ((numB t0.data.toList : Nat) : Int))).setCell ⟨W.heap.size, 1, none⟩ (.int .i64 ((numB t1.data.toList : Nat) : Int))).setCell ⟨W.heap.size, 2, none⟩ (.int .i64 ((numB t2.data.toList : Nat) : Int))).setCell ⟨W.heap.size, 3, none⟩ (.int .i64 ((numB t3.data.toList : Nat) : Int))).setCell ⟨W.heap.size, 4, none⟩ (.int .i64 ((numB t4.data.toList : Nat) : Int))).setCell ⟨W.heap.size, 5, none⟩ (.int .i64 ((numB t5.data.toList : Nat) : Int))).setCell ⟨W.heap.size, 6, none⟩ (.int .i64 ((numB t6.data.toList : Nat) : Int))).heap[W.heap.size]? = some (.cells #[.int .i64 ((numB t0.data.toList : Nat) : Int), .int .i64 ((numB t1.data.toList : Nat) : Int), .int .i64 ((numB t2.data.toList : Nat) : Int), .int .i64 ((numB t3.data.toList : Nat) : Int), .int .i64 ((numB t4.data.toList : Nat) : Int), .int .i64 ((numB t5.data.toList : Nat) : Int), .int .i64 ((numB t6.data.toList : Nat) : Int), .string ⟨#[]⟩, .string ⟨#[]⟩] 120 (0, 0)) := cells_put (j := 6) st5 (.int .i64 ((numB t6.data.toList : Nat) : Int))
  have st7 : (((((((((w9.setCell ⟨w1.heap.size, 8, none⟩ (.string r8)).setCell ⟨W.heap.size, 0, none⟩ (.int .i64 ((numB t0.data.toList : Nat) : Int))).setCell ⟨W.heap.size, 1, none⟩ (.int .i64 ((numB t1.data.toList : Nat) : Int))).setCell ⟨W.heap.size, 2, none⟩ (.int .i64 ((numB t2.data.toList : Nat) : Int))).setCell ⟨W.heap.size, 3, none⟩ (.int .i64 ((numB t3.data.toList : Nat) : Int))).setCell ⟨W.heap.size, 4, none⟩ (.int .i64 ((numB t4.data.toList : Nat) : Int))).setCell ⟨W.heap.size, 5, none⟩ (.int .i64 ((numB t5.data.toList : Nat) : Int))).setCell ⟨W.heap.size, 6, none⟩ (.int .i64 ((numB t6.data.toList : Nat) : Int))).setCell ⟨W.heap.size, 7, none⟩ (.string t7)).heap[W.heap.size]? = some (.cells #[.int .i64 ((numB t0.data.toList : Nat) : Int), .int .i64 ((numB t1.data.toList : Nat) : Int), .int .i64 ((numB t2.data.toList : Nat) : Int), .int .i64 ((numB t3.data.toList : Nat) : Int), .int .i64 ((numB t4.data.toList : Nat) : Int), .int .i64 ((numB t5.data.toList : Nat) : Int), .int .i64 ((numB t6.data.toList : Nat) : Int), .string t7, .string ⟨#[]⟩] 120 (0, 0)) := cells_put (j := 7) st6 (.string t7)
  have st8 : ((((((((((w9.setCell ⟨w1.heap.size, 8, none⟩ (.string r8)).setCell ⟨W.heap.size, 0, none⟩ (.int .i64 ((numB t0.data.toList : Nat) : Int))).setCell ⟨W.heap.size, 1, none⟩ (.int .i64 ((numB t1.data.toList : Nat) : Int))).setCell ⟨W.heap.size, 2, none⟩ (.int .i64 ((numB t2.data.toList : Nat) : Int))).setCell ⟨W.heap.size, 3, none⟩ (.int .i64 ((numB t3.data.toList : Nat) : Int))).setCell ⟨W.heap.size, 4, none⟩ (.int .i64 ((numB t4.data.toList : Nat) : Int))).setCell ⟨W.heap.size, 5, none⟩ (.int .i64 ((numB t5.data.toList : Nat) : Int))).setCell ⟨W.heap.size, 6, none⟩ (.int .i64 ((numB t6.data.toList : Nat) : Int))).setCell ⟨W.heap.size, 7, none⟩ (.string t7)).setCell ⟨W.heap.size, 8, none⟩ (.string r8)).heap[W.heap.size]? = some (.cells #[.int .i64 ((numB t0.data.toList : Nat) : Int), .int .i64 ((numB t1.data.toList : Nat) : Int), .int .i64 ((numB t2.data.toList : Nat) : Int), .int .i64 ((numB t3.data.toList : Nat) : Int), .int .i64 ((numB t4.data.toList : Nat) : Int), .int .i64 ((numB t5.data.toList : Nat) : Int), .int .i64 ((numB t6.data.toList : Nat) : Int), .string t7, .string r8] 120 (0, 0)) := cells_put (j := 8) st7 (.string r8)
  have hfin := st8
  refine bodyPost_ret (v := .tuple #[.agg #[.int .i64 ((numB t0.data.toList : Nat) : Int), .int .i64 ((numB t1.data.toList : Nat) : Int), .int .i64 ((numB t2.data.toList : Nat) : Int), .int .i64 ((numB t3.data.toList : Nat) : Int), .int .i64 ((numB t4.data.toList : Nat) : Int), .int .i64 ((numB t5.data.toList : Nat) : Int), .int .i64 ((numB t6.data.toList : Nat) : Int), .string t7, .string r8], .bool true]) (by simp [results, Tryz.results69, go_sem, (cells_at (v := .int .i64 ((numB t0.data.toList : Nat) : Int)) (j := 0) hfin rfl).1, (cells_at (v := .int .i64 ((numB t1.data.toList : Nat) : Int)) (j := 1) hfin rfl).1, (cells_at (v := .int .i64 ((numB t2.data.toList : Nat) : Int)) (j := 2) hfin rfl).1, (cells_at (v := .int .i64 ((numB t3.data.toList : Nat) : Int)) (j := 3) hfin rfl).1, (cells_at (v := .int .i64 ((numB t4.data.toList : Nat) : Int)) (j := 4) hfin rfl).1, (cells_at (v := .int .i64 ((numB t5.data.toList : Nat) : Int)) (j := 5) hfin rfl).1, (cells_at (v := .int .i64 ((numB t6.data.toList : Nat) : Int)) (j := 6) hfin rfl).1, (cells_at (v := .string t7) (j := 7) hfin rfl).1, (cells_at (v := .string r8) (j := 8) hfin rfl).1]) rfl ⟨.inl ⟨t0, t1, t2, t3, t4, t5, t6, t7, r8, HE.out, rfl⟩, (((((((((Q.out.s.bel).setCell (p := ⟨W.heap.size, 0, none⟩) (Nat.le_refl _) _).setCell (p := ⟨W.heap.size, 1, none⟩) (Nat.le_refl _) _).setCell (p := ⟨W.heap.size, 2, none⟩) (Nat.le_refl _) _).setCell (p := ⟨W.heap.size, 3, none⟩) (Nat.le_refl _) _).setCell (p := ⟨W.heap.size, 4, none⟩) (Nat.le_refl _) _).setCell (p := ⟨W.heap.size, 5, none⟩) (Nat.le_refl _) _).setCell (p := ⟨W.heap.size, 6, none⟩) (Nat.le_refl _) _).setCell (p := ⟨W.heap.size, 7, none⟩) (Nat.le_refl _) _).setCell (p := ⟨W.heap.size, 8, none⟩) (Nat.le_refl _) _⟩
 ·have HE := Hid.mk e4
  clear e4 HSP
  cases b9 with
  | true =>
   clear e1
   go_wp2
   have st0 : ((w9.setCell ⟨w1.heap.size, 8, none⟩ (.string r8)).setCell ⟨W.heap.size, 0, none⟩ (.int .i64 0)).heap[W.heap.size]? = some (.cells #[.int .i64 0, .int .i64 0, .int .i64 0, .int .i64 0, .int .i64 0, .int .i64 0, .int .i64 0, .string ⟨#[]⟩, .string ⟨#[]⟩] 120 (0, 0)) := cells_put (j := 0) Q.out.s.res (.int .i64 0)
   have st1 : (((w9.setCell ⟨w1.heap.size, 8, none⟩ (.string r8)).setCell ⟨W.heap.size, 0, none⟩ (.int .i64 0)).setCell ⟨W.heap.size, 1, none⟩ (.int .i64 0)).heap[W.heap.size]? = some (.cells #[.int .i64 0, .int .i64 0, .int .i64 0, .int .i64 0, .int .i64 0, .int .i64 0, .int .i64 0, .string ⟨#[]⟩, .string ⟨#[]⟩] 120 (0, 0)) := cells_put (j := 1) st0 (.int .i64 0)
   have st2 : ((((w9.setCell ⟨w1.heap.size, 8, none⟩ (.string r8)).setCell ⟨W.heap.size, 0, none⟩ (.int .i64 0)).setCell ⟨W.heap.size, 1, none⟩ (.int .i64 0)).setCell ⟨W.heap.size, 2, none⟩ (.int .i64 0)).heap[W.heap.size]? = some (.cells #[.int .i64 0, .int .i64 0, .int .i64 0, .int .i64 0, .int .i64 0, .int .i64 0, .int .i64 0, .string ⟨#[]⟩, .string ⟨#[]⟩] 120 (0, 0)) := cells_put (j := 2) st1 (.int .i64 0)
   have st3 : (((((w9.setCell ⟨w1.heap.size, 8, none⟩ (.string r8)).setCell ⟨W.heap.size, 0, none⟩ (.int .i64 0)).setCell ⟨W.heap.size, 1, none⟩ (.int .i64 0)).setCell ⟨W.heap.size, 2, none⟩ (.int .i64 0)).setCell ⟨W.heap.size, 3, none⟩ (.int .i64 0)).heap[W.heap.size]? = some (.cells #[.int .i64 0, .int .i64 0, .int .i64 0, .int .i64 0, .int .i64 0, .int .i64 0, .int .i64 0, .string ⟨#[]⟩, .string ⟨#[]⟩] 120 (0, 0)) := cells_put (j := 3) st2 (.int .i64 0)
   have st4 : ((((((w9.setCell ⟨w1.heap.size, 8, none⟩ (.string r8)).setCell ⟨W.heap.size, 0, none⟩ (.int .i64 0)).setCell ⟨W.heap.size, 1, none⟩ (.int .i64 0)).setCell ⟨W.heap.size, 2, none⟩ (.int .i64 0)).setCell ⟨W.heap.size, 3, none⟩ (.int .i64 0)).setCell ⟨W.heap.size, 4, none⟩ (.int .i64 0)).heap[W.heap.size]? = some (.cells #[.int .i64 0, .int .i64 0, .int .i64 0, .int .i64 0, .int .i64 0, .int .i64 0, .int .i64 0, .string ⟨#[]⟩, .string ⟨#[]⟩] 120 (0, 0)) := cells_put (j := 4) st3 (.int .i64 0)
   have st5 : (((((((w9.setCell ⟨w1.heap.size, 8, none⟩ (.string r8)).setCell ⟨W.heap.size, 0, none⟩ (.int .i64 0)).setCell ⟨W.heap.size, 1, none⟩ (.int .i64 0)).setCell ⟨W.heap.size, 2, none⟩ (.int .i64 0)).setCell ⟨W.heap.size, 3, none⟩ (.int .i64 0)).setCell ⟨W.heap.size, 4, none⟩ (.int .i64 0)).setCell ⟨W.heap.size, 5, none⟩ (.int .i64 0)).heap[W.heap.size]? = some (.cells #[.int .i64 0, .int .i64 0, .int .i64 0, .int .i64 0, .int .i64 0, .int .i64 0, .int .i64 0, .string ⟨#[]⟩, .string ⟨#[]⟩] 120 (0, 0)) := cells_put (j := 5) st4 (.int .i64 0)
   have st6 : ((((((((w9.setCell ⟨w1.heap.size, 8, none⟩ (.string r8)).setCell ⟨W.heap.size, 0, none⟩ (.int .i64 0)).setCell ⟨W.heap.size, 1, none⟩ (.int .i64 0)).setCell ⟨W.heap.size, 2, none⟩ (.int .i64 0)).setCell ⟨W.heap.size, 3, none⟩ (.int .i64 0)).setCell ⟨W.heap.size, 4, none⟩ (.int .i64 0)).setCell ⟨W.heap.size, 5, none⟩ (.int .i64 0)).setCell ⟨W.heap.size, 6, none⟩ (.int .i64 0)).heap[W.heap.size]? = some (.cells #[.int .i64 0, .int .i64 0, .int .i64 0, .int .i64 0, .int .i64 0, .int .i64 0, .int .i64 0, .string ⟨#[]⟩, .string ⟨#[]⟩] 120 (0, 0)) := cells_put (j := 6) st5 (.int .i64 0)
   have st7 : (((((((((w9.setCell ⟨w1.heap.size, 8, none⟩ (.string r8)).setCell ⟨W.heap.size, 0, none⟩ (.int .i64 0)).setCell ⟨W.heap.size, 1, none⟩ (.int .i64 0)).setCell ⟨W.heap.size, 2, none⟩ (.int .i64 0)).setCell ⟨W.heap.size, 3, none⟩ (.int .i64 0)).setCell ⟨W.heap.size, 4, none⟩ (.int .i64 0)).setCell ⟨W.heap.size, 5, none⟩ (.int .i64 0)).setCell ⟨W.heap.size, 6, none⟩ (.int .i64 0)).setCell ⟨W.heap.size, 7, none⟩ (.string ⟨#[]⟩)).heap[W.heap.size]? = some (.cells #[.int .i64 0, .int .i64 0, .int .i64 0, .int .i64 0, .int .i64 0, .int .i64 0, .int .i64 0, .string ⟨#[]⟩, .string ⟨#[]⟩] 120 (0, 0)) := cells_put (j := 7) st6 (.string ⟨#[]⟩)
   have st8 : ((((((((((w9.setCell ⟨w1.heap.size, 8, none⟩ (.string r8)).setCell ⟨W.heap.size, 0, none⟩ (.int .i64 0)).setCell ⟨W.heap.size, 1, none⟩ (.int .i64 0)).setCell ⟨W.heap.size, 2, none⟩ (.int .i64 0)).setCell ⟨W.heap.size, 3, none⟩ (.int .i64 0)).setCell ⟨W.heap.size, 4, none⟩ (.int .i64 0)).setCell ⟨W.heap.size, 5, none⟩ (.int .i64 0)).setCell ⟨W.heap.size, 6, none⟩ (.int .i64 0)).setCell ⟨W.heap.size, 7, none⟩ (.string ⟨#[]⟩)).setCell ⟨W.heap.size, 8, none⟩ (.string ⟨#[]⟩)).heap[W.heap.size]? = some (.cells #[.int .i64 0, .int .i64 0, .int .i64 0, .int .i64 0, .int .i64 0, .int .i64 0, .int .i64 0, .string ⟨#[]⟩, .string ⟨#[]⟩] 120 (0, 0)) := cells_put (j := 8) st7 (.string ⟨#[]⟩)
   have hfin := st8
   refine bodyPost_ret (v := .tuple #[.agg #[.int .i64 0, .int .i64 0, .int .i64 0, .int .i64 0, .int .i64 0, .int .i64 0, .int .i64 0, .string ⟨#[]⟩, .string ⟨#[]⟩], .bool false]) (by simp [results, Tryz.results69, go_sem, (cells_at (v := .int .i64 0) (j := 0) hfin rfl).1, (cells_at (v := .int .i64 0) (j := 1) hfin rfl).1, (cells_at (v := .int .i64 0) (j := 2) hfin rfl).1, (cells_at (v := .int .i64 0) (j := 3) hfin rfl).1, (cells_at (v := .int .i64 0) (j := 4) hfin rfl).1, (cells_at (v := .int .i64 0) (j := 5) hfin rfl).1, (cells_at (v := .int .i64 0) (j := 6) hfin rfl).1, (cells_at (v := .string ⟨#[]⟩) (j := 7) hfin rfl).1, (cells_at (v := .string ⟨#[]⟩) (j := 8) hfin rfl).1]) rfl ⟨.inr ⟨HE.out, rfl⟩, (((((((((Q.out.s.bel).setCell (p := ⟨W.heap.size, 0, none⟩) (Nat.le_refl _) _).setCell (p := ⟨W.heap.size, 1, none⟩) (Nat.le_refl _) _).setCell (p := ⟨W.heap.size, 2, none⟩) (Nat.le_refl _) _).setCell (p := ⟨W.heap.size, 3, none⟩) (Nat.le_refl _) _).setCell (p := ⟨W.heap.size, 4, none⟩) (Nat.le_refl _) _).setCell (p := ⟨W.heap.size, 5, none⟩) (Nat.le_refl _) _).setCell (p := ⟨W.heap.size, 6, none⟩) (Nat.le_refl _) _).setCell (p := ⟨W.heap.size, 7, none⟩) (Nat.le_refl _) _).setCell (p := ⟨W.heap.size, 8, none⟩) (Nat.le_refl _) _⟩
  | false =>
   have e3 : 2000 < d.size := by
    have := HZ.out
    rcases e1 with h | h | h
    ·cases h
    ·omega
    ·exact h
   clear e1
   go_wp2
   have st0 : ((w9.setCell ⟨w1.heap.size, 8, none⟩ (.string r8)).setCell ⟨W.heap.size, 0, none⟩ (.int .i64 0)).heap[W.heap.size]? = some (.cells #[.int .i64 0, .int .i64 0, .int .i64 0, .int .i64 0, .int .i64 0, .int .i64 0, .int .i64 0, .string ⟨#[]⟩, .string ⟨#[]⟩] 120 (0, 0)) := cells_put (j := 0) Q.out.s.res (.int .i64 0)
   have st1 : (((w9.setCell ⟨w1.heap.size, 8, none⟩ (.string r8)).setCell ⟨W.heap.size, 0, none⟩ (.int .i64 0)).setCell ⟨W.heap.size, 1, none⟩ (.int .i64 0)).heap[W.heap.size]? = some (.cells #[.int .i64 0, .int .i64 0, .int .i64 0, .int .i64 0, .int .i64 0, .int .i64 0, .int .i64 0, .string ⟨#[]⟩, .string ⟨#[]⟩] 120 (0, 0)) := cells_put (j := 1) st0 (.int .i64 0)
   have st2 : ((((w9.setCell ⟨w1.heap.size, 8, none⟩ (.string r8)).setCell ⟨W.heap.size, 0, none⟩ (.int .i64 0)).setCell ⟨W.heap.size, 1, none⟩ (.int .i64 0)).setCell ⟨W.heap.size, 2, none⟩ (.int .i64 0)).heap[W.heap.size]? = some (.cells #[.int .i64 0, .int .i64 0, .int .i64 0, .int .i64 0, .int .i64 0, .int .i64 0, .int .i64 0, .string ⟨#[]⟩, .string ⟨#[]⟩] 120 (0, 0)) := cells_put (j := 2) st1 (.int .i64 0)
   have st3 : (((((w9.setCell ⟨w1.heap.size, 8, none⟩ (.string r8)).setCell ⟨W.heap.size, 0, none⟩ (.int .i64 0)).setCell ⟨W.heap.size, 1, none⟩ (.int .i64 0)).setCell ⟨W.heap.size, 2, none⟩ (.int .i64 0)).setCell ⟨W.heap.size, 3, none⟩ (.int .i64 0)).heap[W.heap.size]? = some (.cells #[.int .i64 0, .int .i64 0, .int .i64 0, .int .i64 0, .int .i64 0, .int .i64 0, .int .i64 0, .string ⟨#[]⟩, .string ⟨#[]⟩] 120 (0, 0)) := cells_put (j := 3) st2 (.int .i64 0)
   have st4 : ((((((w9.setCell ⟨w1.heap.size, 8, none⟩ (.string r8)).setCell ⟨W.heap.size, 0, none⟩ (.int .i64 0)).setCell ⟨W.heap.size, 1, none⟩ (.int .i64 0)).setCell ⟨W.heap.size, 2, none⟩ (.int .i64 0)).setCell ⟨W.heap.size, 3, none⟩ (.int .i64 0)).setCell ⟨W.heap.size, 4, none⟩ (.int .i64 0)).heap[W.heap.size]? = some (.cells #[.int .i64 0, .int .i64 0, .int .i64 0, .int .i64 0, .int .i64 0, .int .i64 0, .int .i64 0, .string ⟨#[]⟩, .string ⟨#[]⟩] 120 (0, 0)) := cells_put (j := 4) st3 (.int .i64 0)
   have st5 : (((((((w9.setCell ⟨w1.heap.size, 8, none⟩ (.string r8)).setCell ⟨W.heap.size, 0, none⟩ (.int .i64 0)).setCell ⟨W.heap.size, 1, none⟩ (.int .i64 0)).setCell ⟨W.heap.size, 2, none⟩ (.int .i64 0)).setCell ⟨W.heap.size, 3, none⟩ (.int .i64 0)).setCell ⟨W.heap.size, 4, none⟩ (.int .i64 0)).setCell ⟨W.heap.size, 5, none⟩ (.int .i64 0)).heap[W.heap.size]? = some (.cells #[.int .i64 0, .int .i64 0, .int .i64 0, .int .i64 0, .int .i64 0, .int .i64 0, .int .i64 0, .string ⟨#[]⟩, .string ⟨#[]⟩] 120 (0, 0)) := cells_put (j := 5) st4 (.int .i64 0)
   have st6 : ((((((((w9.setCell ⟨w1.heap.size, 8, none⟩ (.string r8)).setCell ⟨W.heap.size, 0, none⟩ (.int .i64 0)).setCell ⟨W.heap.size, 1, none⟩ (.int .i64 0)).setCell ⟨W.heap.size, 2, none⟩ (.int .i64 0)).setCell ⟨W.heap.size, 3, none⟩ (.int .i64 0)).setCell ⟨W.heap.size, 4, none⟩ (.int .i64 0)).setCell ⟨W.heap.size, 5, none⟩ (.int .i64 0)).setCell ⟨W.heap.size, 6, none⟩ (.int .i64 0)).heap[W.heap.size]? = some (.cells #[.int .i64 0, .int .i64 0, .int .i64 0, .int .i64 0, .int .i64 0, .int .i64 0, .int .i64 0, .string ⟨#[]⟩, .string ⟨#[]⟩] 120 (0, 0)) := cells_put (j := 6) st5 (.int .i64 0)
   have st7 : (((((((((w9.setCell ⟨w1.heap.size, 8, none⟩ (.string r8)).setCell ⟨W.heap.size, 0, none⟩ (.int .i64 0)).setCell ⟨W.heap.size, 1, none⟩ (.int .i64 0)).setCell ⟨W.heap.size, 2, none⟩ (.int .i64 0)).setCell ⟨W.heap.size, 3, none⟩ (.int .i64 0)).setCell ⟨W.heap.size, 4, none⟩ (.int .i64 0)).setCell ⟨W.heap.size, 5, none⟩ (.int .i64 0)).setCell ⟨W.heap.size, 6, none⟩ (.int .i64 0)).setCell ⟨W.heap.size, 7, none⟩ (.string ⟨#[]⟩)).heap[W.heap.size]? = some (.cells #[.int .i64 0, .int .i64 0, .int .i64 0, .int .i64 0, .int .i64 0, .int .i64 0, .int .i64 0, .string ⟨#[]⟩, .string ⟨#[]⟩] 120 (0, 0)) := cells_put (j := 7) st6 (.string ⟨#[]⟩)
   have st8 : ((((((((((w9.setCell ⟨w1.heap.size, 8, none⟩ (.string r8)).setCell ⟨W.heap.size, 0, none⟩ (.int .i64 0)).setCell ⟨W.heap.size, 1, none⟩ (.int .i64 0)).setCell ⟨W.heap.size, 2, none⟩ (.int .i64 0)).setCell ⟨W.heap.size, 3, none⟩ (.int .i64 0)).setCell ⟨W.heap.size, 4, none⟩ (.int .i64 0)).setCell ⟨W.heap.size, 5, none⟩ (.int .i64 0)).setCell ⟨W.heap.size, 6, none⟩ (.int .i64 0)).setCell ⟨W.heap.size, 7, none⟩ (.string ⟨#[]⟩)).setCell ⟨W.heap.size, 8, none⟩ (.string ⟨#[]⟩)).heap[W.heap.size]? = some (.cells #[.int .i64 0, .int .i64 0, .int .i64 0, .int .i64 0, .int .i64 0, .int .i64 0, .int .i64 0, .string ⟨#[]⟩, .string ⟨#[]⟩] 120 (0, 0)) := cells_put (j := 8) st7 (.string ⟨#[]⟩)
   have hfin := st8
   refine bodyPost_ret (v := .tuple #[.agg #[.int .i64 0, .int .i64 0, .int .i64 0, .int .i64 0, .int .i64 0, .int .i64 0, .int .i64 0, .string ⟨#[]⟩, .string ⟨#[]⟩], .bool false]) (by simp [results, Tryz.results69, go_sem, (cells_at (v := .int .i64 0) (j := 0) hfin rfl).1, (cells_at (v := .int .i64 0) (j := 1) hfin rfl).1, (cells_at (v := .int .i64 0) (j := 2) hfin rfl).1, (cells_at (v := .int .i64 0) (j := 3) hfin rfl).1, (cells_at (v := .int .i64 0) (j := 4) hfin rfl).1, (cells_at (v := .int .i64 0) (j := 5) hfin rfl).1, (cells_at (v := .int .i64 0) (j := 6) hfin rfl).1, (cells_at (v := .string ⟨#[]⟩) (j := 7) hfin rfl).1, (cells_at (v := .string ⟨#[]⟩) (j := 8) hfin rfl).1]) rfl ⟨.inr ⟨HE.out, rfl⟩, (((((((((Q.out.s.bel).setCell (p := ⟨W.heap.size, 0, none⟩) (Nat.le_refl _) _).setCell (p := ⟨W.heap.size, 1, none⟩) (Nat.le_refl _) _).setCell (p := ⟨W.heap.size, 2, none⟩) (Nat.le_refl _) _).setCell (p := ⟨W.heap.size, 3, none⟩) (Nat.le_refl _) _).setCell (p := ⟨W.heap.size, 4, none⟩) (Nat.le_refl _) _).setCell (p := ⟨W.heap.size, 5, none⟩) (Nat.le_refl _) _).setCell (p := ⟨W.heap.size, 6, none⟩) (Nat.le_refl _) _).setCell (p := ⟨W.heap.size, 7, none⟩) (Nat.le_refl _) _).setCell (p := ⟨W.heap.size, 8, none⟩) (Nat.le_refl _) _⟩
end Go.Proofs.YtdlcldjlfhmlgaaGreatDoor
/- Key, as the document's own function takes it apart. -/
namespace Go.Proofs.YtdlcldjlfhmlgaaGreatDoor
open Go.RowKit
def RefKeyPost (d : ByteArray) (e : Ending) : Prop := ((∃ t0 t1 t2 t3 : ByteArray, splitR 48 d = some [t0, t1, t2, t3] ∧ e = .returned (.tuple #[.agg #[.int .i64 ((numB t0.data.toList : Nat) : Int), .int .i64 ((numB t1.data.toList : Nat) : Int), .int .i64 ((numB t2.data.toList : Nat) : Int), .string t3], .bool true])) ∨ (splitR 48 d = none ∧ e = .returned (.tuple #[.agg #[.int .i64 0, .int .i64 0, .int .i64 0, .string ⟨#[]⟩], .bool false])))
set_option maxRecDepth 100000 in
set_option maxHeartbeats 8000000 in
theorem refKey_in (d : ByteArray) (hd : d.size ≤ 140737488355328) (W : World) :
  Calls Tryz.prog 132 #[.string d] W fun e w' => RefKeyPost d e ∧ Below W.heap.size W w' := by
 have hmo : Tryz.prog.follows Departure.mixedOrders = true := by kernel_rfl
 have Q := Hid.mk (S0.first W 195 #[.int .i64 0, .int .i64 0, .int .i64 0, .string ⟨#[]⟩] d)
 obtain ⟨r0, hr0⟩ : ∃ r0, r0 = d := ⟨_, rfl⟩
 have hz0 : r0.size ≤ 140737488355328 := by rw [hr0]; exact hd
 rw [show S0 W ((W.alloc (.cells #[.int .i64 0, .int .i64 0, .int .i64 0, .string ⟨#[]⟩] 195)).alloc (.cells #[.string d, .bool false] 149)) W.heap.size (W.heap.size + 1) d false 195 #[.int .i64 0, .int .i64 0, .int .i64 0, .string ⟨#[]⟩] = S0 W ((W.alloc (.cells #[.int .i64 0, .int .i64 0, .int .i64 0, .string ⟨#[]⟩] 195)).alloc (.cells #[.string d, .bool false] 149)) W.heap.size (W.heap.size + 1) r0 false 195 #[.int .i64 0, .int .i64 0, .int .i64 0, .string ⟨#[]⟩] by rw [hr0]] at Q
 have HR0 := Hid.mk hr0
 clear hr0
 go_enter Tryz.func132, Tryz.ntmps132
 go_wp2_with fail
 refine (rNum_post (.num 2) 2 (fun _ => rfl) (by omega) _ (W.heap.size + 1) r0 false hz0 Q.out.rr).mono ?_
 rintro e w1 ⟨t0, r1, b1, rfl, hr, hk, hs0, hz⟩
 have hz1 : r1.size ≤ 140737488355328 := by omega
 replace Q := Hid.mk (Q.out.call hr hk)
 have P0 := Hid.mk hs0
 clear hr hk hs0 hz hz0
 replace Q := Hid.mk (Q.out.new #[.int .i64 ((numB t0.data.toList : Nat) : Int), .int .i64 0, .int .i64 0, .string ⟨#[]⟩])
 go_wp2_with fail
 refine (rNum_post (.num 1) 1 (fun _ => rfl) (by omega) _ (W.heap.size + 1) r1 b1 hz1 Q.out.s.rr).mono ?_
 rintro e w2 ⟨t1, r2, b2, rfl, hr, hk, hs1, hz⟩
 have hz2 : r2.size ≤ 140737488355328 := by omega
 replace Q := Hid.mk (Q.out.call hr hk)
 have P1 := Hid.mk hs1
 clear hr hk hs1 hz hz1
 obtain ⟨g1, f1⟩ := cells_at (v := .int .i64 0) (j := 1) Q.out.x rfl
 replace Q := Hid.mk (Q.out.put 1 (.int .i64 ((numB t1.data.toList : Nat) : Int)))
 go_wp2_with fail
 refine (rNum_post (.num 1) 1 (fun _ => rfl) (by omega) _ (W.heap.size + 1) r2 b2 hz2 Q.out.s.rr).mono ?_
 rintro e w3 ⟨t2, r3, b3, rfl, hr, hk, hs2, hz⟩
 have hz3 : r3.size ≤ 140737488355328 := by omega
 replace Q := Hid.mk (Q.out.call hr hk)
 have P2 := Hid.mk hs2
 clear hr hk hs2 hz hz2
 obtain ⟨g2, f2⟩ := cells_at (v := .int .i64 0) (j := 2) Q.out.x rfl
 replace Q := Hid.mk (Q.out.put 2 (.int .i64 ((numB t2.data.toList : Nat) : Int)))
 go_wp2_with fail
 refine (rAll_post _ (W.heap.size + 1) r3 b3 hz3 Q.out.s.rr).mono ?_
 rintro e w4 ⟨r4, b4, rfl, hr, hk, hs3, hz⟩
 have hz4 : r4.size ≤ 140737488355328 := by omega
 replace Q := Hid.mk (Q.out.call hr hk)
 have P3 := Hid.mk hs3
 have HZ := Hid.mk hz
 clear hr hk hs3 hz hz3
 obtain ⟨g3, f3⟩ := cells_at (v := .string ⟨#[]⟩) (j := 3) Q.out.x rfl
 replace Q := Hid.mk (Q.out.put 3 (.string r3))
 have HC : Hid (Chn (formOf 48) r0 false [t0, t1, t2, r3] r4 b4) := (Chn.cons P0.out (Chn.cons P1.out (Chn.cons P2.out (Chn.cons P3.out Chn.nil))))
 have HSP := Hid.mk (HC.out.split (by omega))
 rw [HR0.out] at HSP
 clear HC P0 P1 P2 P3
 obtain ⟨u0, v0⟩ := Q.out.s.rr.c0
 obtain ⟨u1, v1⟩ := Q.out.s.rr.c1
 obtain ⟨x0, y0⟩ := cells_at (v := .int .i64 ((numB t0.data.toList : Nat) : Int)) (j := 0) Q.out.x rfl
 obtain ⟨x1, y1⟩ := cells_at (v := .int .i64 ((numB t1.data.toList : Nat) : Int)) (j := 1) Q.out.x rfl
 obtain ⟨x2, y2⟩ := cells_at (v := .int .i64 ((numB t2.data.toList : Nat) : Int)) (j := 2) Q.out.x rfl
 obtain ⟨x3, y3⟩ := cells_at (v := .string r3) (j := 3) Q.out.x rfl
 obtain ⟨a0, c0⟩ := cells_at (v := .int .i64 0) (j := 0) Q.out.s.res rfl
 obtain ⟨a1, c1⟩ := cells_at (v := .int .i64 0) (j := 1) Q.out.s.res rfl
 obtain ⟨a2, c2⟩ := cells_at (v := .int .i64 0) (j := 2) Q.out.s.res rfl
 obtain ⟨a3, c3⟩ := cells_at (v := .string ⟨#[]⟩) (j := 3) Q.out.s.res rfl
 clear g1 f1 g2 f2
 rcases HSP.out with ⟨e1, e2, e3, e4⟩ | ⟨e1, e4⟩
 ·have HE := Hid.mk e4
  subst e1
  clear e4 HSP
  go_wp2
  have hfin : (((((w4.setCell ⟨w1.heap.size, 3, none⟩ (.string r3)).setCell ⟨W.heap.size, 0, none⟩ (.int .i64 ((numB t0.data.toList : Nat) : Int))).setCell ⟨W.heap.size, 1, none⟩ (.int .i64 ((numB t1.data.toList : Nat) : Int))).setCell ⟨W.heap.size, 2, none⟩ (.int .i64 ((numB t2.data.toList : Nat) : Int))).setCell ⟨W.heap.size, 3, none⟩ (.string r3)).heap[W.heap.size]? = some (.cells #[.int .i64 ((numB t0.data.toList : Nat) : Int), .int .i64 ((numB t1.data.toList : Nat) : Int), .int .i64 ((numB t2.data.toList : Nat) : Int), .string r3] 195 (0, 0)) := cells_put (j := 3) (cells_put (j := 2) (cells_put (j := 1) (cells_put (j := 0) (Q.out.s.res) (.int .i64 ((numB t0.data.toList : Nat) : Int))) (.int .i64 ((numB t1.data.toList : Nat) : Int))) (.int .i64 ((numB t2.data.toList : Nat) : Int))) (.string r3)
  refine bodyPost_ret (v := .tuple #[.agg #[.int .i64 ((numB t0.data.toList : Nat) : Int), .int .i64 ((numB t1.data.toList : Nat) : Int), .int .i64 ((numB t2.data.toList : Nat) : Int), .string r3], .bool true]) (by simp [results, Tryz.results132, go_sem, (cells_at (v := .int .i64 ((numB t0.data.toList : Nat) : Int)) (j := 0) hfin rfl).1, (cells_at (v := .int .i64 ((numB t1.data.toList : Nat) : Int)) (j := 1) hfin rfl).1, (cells_at (v := .int .i64 ((numB t2.data.toList : Nat) : Int)) (j := 2) hfin rfl).1, (cells_at (v := .string r3) (j := 3) hfin rfl).1]) rfl ⟨.inl ⟨t0, t1, t2, r3, HE.out, rfl⟩, ((((Q.out.s.bel).setCell (p := ⟨W.heap.size, 0, none⟩) (Nat.le_refl _) _).setCell (p := ⟨W.heap.size, 1, none⟩) (Nat.le_refl _) _).setCell (p := ⟨W.heap.size, 2, none⟩) (Nat.le_refl _) _).setCell (p := ⟨W.heap.size, 3, none⟩) (Nat.le_refl _) _⟩
 ·have HE := Hid.mk e4
  clear e4 HSP
  cases b4 with
  | true =>
   clear e1
   go_wp2
   have hfin : (((((w4.setCell ⟨w1.heap.size, 3, none⟩ (.string r3)).setCell ⟨W.heap.size, 0, none⟩ (.int .i64 0)).setCell ⟨W.heap.size, 1, none⟩ (.int .i64 0)).setCell ⟨W.heap.size, 2, none⟩ (.int .i64 0)).setCell ⟨W.heap.size, 3, none⟩ (.string ⟨#[]⟩)).heap[W.heap.size]? = some (.cells #[.int .i64 0, .int .i64 0, .int .i64 0, .string ⟨#[]⟩] 195 (0, 0)) := cells_put (j := 3) (cells_put (j := 2) (cells_put (j := 1) (cells_put (j := 0) (Q.out.s.res) (.int .i64 0)) (.int .i64 0)) (.int .i64 0)) (.string ⟨#[]⟩)
   refine bodyPost_ret (v := .tuple #[.agg #[.int .i64 0, .int .i64 0, .int .i64 0, .string ⟨#[]⟩], .bool false]) (by simp [results, Tryz.results132, go_sem, (cells_at (v := .int .i64 0) (j := 0) hfin rfl).1, (cells_at (v := .int .i64 0) (j := 1) hfin rfl).1, (cells_at (v := .int .i64 0) (j := 2) hfin rfl).1, (cells_at (v := .string ⟨#[]⟩) (j := 3) hfin rfl).1]) rfl ⟨.inr ⟨HE.out, rfl⟩, ((((Q.out.s.bel).setCell (p := ⟨W.heap.size, 0, none⟩) (Nat.le_refl _) _).setCell (p := ⟨W.heap.size, 1, none⟩) (Nat.le_refl _) _).setCell (p := ⟨W.heap.size, 2, none⟩) (Nat.le_refl _) _).setCell (p := ⟨W.heap.size, 3, none⟩) (Nat.le_refl _) _⟩
  | false =>
   have e3 : 2000 < d.size := by
    have := HZ.out
    rcases e1 with h | h | h
    ·cases h
    ·omega
    ·exact h
   clear e1
   go_wp2
   have hfin : (((((w4.setCell ⟨w1.heap.size, 3, none⟩ (.string r3)).setCell ⟨W.heap.size, 0, none⟩ (.int .i64 0)).setCell ⟨W.heap.size, 1, none⟩ (.int .i64 0)).setCell ⟨W.heap.size, 2, none⟩ (.int .i64 0)).setCell ⟨W.heap.size, 3, none⟩ (.string ⟨#[]⟩)).heap[W.heap.size]? = some (.cells #[.int .i64 0, .int .i64 0, .int .i64 0, .string ⟨#[]⟩] 195 (0, 0)) := cells_put (j := 3) (cells_put (j := 2) (cells_put (j := 1) (cells_put (j := 0) (Q.out.s.res) (.int .i64 0)) (.int .i64 0)) (.int .i64 0)) (.string ⟨#[]⟩)
   refine bodyPost_ret (v := .tuple #[.agg #[.int .i64 0, .int .i64 0, .int .i64 0, .string ⟨#[]⟩], .bool false]) (by simp [results, Tryz.results132, go_sem, (cells_at (v := .int .i64 0) (j := 0) hfin rfl).1, (cells_at (v := .int .i64 0) (j := 1) hfin rfl).1, (cells_at (v := .int .i64 0) (j := 2) hfin rfl).1, (cells_at (v := .string ⟨#[]⟩) (j := 3) hfin rfl).1]) rfl ⟨.inr ⟨HE.out, rfl⟩, ((((Q.out.s.bel).setCell (p := ⟨W.heap.size, 0, none⟩) (Nat.le_refl _) _).setCell (p := ⟨W.heap.size, 1, none⟩) (Nat.le_refl _) _).setCell (p := ⟨W.heap.size, 2, none⟩) (Nat.le_refl _) _).setCell (p := ⟨W.heap.size, 3, none⟩) (Nat.le_refl _) _⟩
end Go.Proofs.YtdlcldjlfhmlgaaGreatDoor
/- Ds, as the document's own function takes it apart. -/
namespace Go.Proofs.YtdlcldjlfhmlgaaGreatDoor
open Go.RowKit
def RefDsPost (d : ByteArray) (e : Ending) : Prop := ((∃ t0 t1 t2 t3 : ByteArray, splitR 43 d = some [t0, t1, t2, t3] ∧ e = .returned (.tuple #[.agg #[.int .i64 ((numB t0.data.toList : Nat) : Int), .int .i64 ((numB t1.data.toList : Nat) : Int), .int .i64 ((numB t2.data.toList : Nat) : Int), .string t3], .bool true])) ∨ (splitR 43 d = none ∧ e = .returned (.tuple #[.agg #[.int .i64 0, .int .i64 0, .int .i64 0, .string ⟨#[]⟩], .bool false])))
set_option maxRecDepth 100000 in
set_option maxHeartbeats 8000000 in
theorem refDs_in (d : ByteArray) (hd : d.size ≤ 140737488355328) (W : World) :
  Calls Tryz.prog 130 #[.string d] W fun e w' => RefDsPost d e ∧ Below W.heap.size W w' := by
 have hmo : Tryz.prog.follows Departure.mixedOrders = true := by kernel_rfl
 have Q := Hid.mk (S0.first W 68 #[.int .i64 0, .int .i64 0, .int .i64 0, .string ⟨#[]⟩] d)
 obtain ⟨r0, hr0⟩ : ∃ r0, r0 = d := ⟨_, rfl⟩
 have hz0 : r0.size ≤ 140737488355328 := by rw [hr0]; exact hd
 rw [show S0 W ((W.alloc (.cells #[.int .i64 0, .int .i64 0, .int .i64 0, .string ⟨#[]⟩] 68)).alloc (.cells #[.string d, .bool false] 149)) W.heap.size (W.heap.size + 1) d false 68 #[.int .i64 0, .int .i64 0, .int .i64 0, .string ⟨#[]⟩] = S0 W ((W.alloc (.cells #[.int .i64 0, .int .i64 0, .int .i64 0, .string ⟨#[]⟩] 68)).alloc (.cells #[.string d, .bool false] 149)) W.heap.size (W.heap.size + 1) r0 false 68 #[.int .i64 0, .int .i64 0, .int .i64 0, .string ⟨#[]⟩] by rw [hr0]] at Q
 have HR0 := Hid.mk hr0
 clear hr0
 go_enter Tryz.func130, Tryz.ntmps130
 go_wp2_with fail
 refine (rNum_post (.num 2) 2 (fun _ => rfl) (by omega) _ (W.heap.size + 1) r0 false hz0 Q.out.rr).mono ?_
 rintro e w1 ⟨t0, r1, b1, rfl, hr, hk, hs0, hz⟩
 have hz1 : r1.size ≤ 140737488355328 := by omega
 replace Q := Hid.mk (Q.out.call hr hk)
 have P0 := Hid.mk hs0
 clear hr hk hs0 hz hz0
 replace Q := Hid.mk (Q.out.new #[.int .i64 ((numB t0.data.toList : Nat) : Int), .int .i64 0, .int .i64 0, .string ⟨#[]⟩])
 go_wp2_with fail
 refine (rNum_post (.num 1) 1 (fun _ => rfl) (by omega) _ (W.heap.size + 1) r1 b1 hz1 Q.out.s.rr).mono ?_
 rintro e w2 ⟨t1, r2, b2, rfl, hr, hk, hs1, hz⟩
 have hz2 : r2.size ≤ 140737488355328 := by omega
 replace Q := Hid.mk (Q.out.call hr hk)
 have P1 := Hid.mk hs1
 clear hr hk hs1 hz hz1
 obtain ⟨g1, f1⟩ := cells_at (v := .int .i64 0) (j := 1) Q.out.x rfl
 replace Q := Hid.mk (Q.out.put 1 (.int .i64 ((numB t1.data.toList : Nat) : Int)))
 go_wp2_with fail
 refine (rNum_post (.num 1) 1 (fun _ => rfl) (by omega) _ (W.heap.size + 1) r2 b2 hz2 Q.out.s.rr).mono ?_
 rintro e w3 ⟨t2, r3, b3, rfl, hr, hk, hs2, hz⟩
 have hz3 : r3.size ≤ 140737488355328 := by omega
 replace Q := Hid.mk (Q.out.call hr hk)
 have P2 := Hid.mk hs2
 clear hr hk hs2 hz hz2
 obtain ⟨g2, f2⟩ := cells_at (v := .int .i64 0) (j := 2) Q.out.x rfl
 replace Q := Hid.mk (Q.out.put 2 (.int .i64 ((numB t2.data.toList : Nat) : Int)))
 go_wp2_with fail
 refine (rAll_post _ (W.heap.size + 1) r3 b3 hz3 Q.out.s.rr).mono ?_
 rintro e w4 ⟨r4, b4, rfl, hr, hk, hs3, hz⟩
 have hz4 : r4.size ≤ 140737488355328 := by omega
 replace Q := Hid.mk (Q.out.call hr hk)
 have P3 := Hid.mk hs3
 have HZ := Hid.mk hz
 clear hr hk hs3 hz hz3
 obtain ⟨g3, f3⟩ := cells_at (v := .string ⟨#[]⟩) (j := 3) Q.out.x rfl
 replace Q := Hid.mk (Q.out.put 3 (.string r3))
 have HC : Hid (Chn (formOf 43) r0 false [t0, t1, t2, r3] r4 b4) := (Chn.cons P0.out (Chn.cons P1.out (Chn.cons P2.out (Chn.cons P3.out Chn.nil))))
 have HSP := Hid.mk (HC.out.split (by omega))
 rw [HR0.out] at HSP
 clear HC P0 P1 P2 P3
 obtain ⟨u0, v0⟩ := Q.out.s.rr.c0
 obtain ⟨u1, v1⟩ := Q.out.s.rr.c1
 obtain ⟨x0, y0⟩ := cells_at (v := .int .i64 ((numB t0.data.toList : Nat) : Int)) (j := 0) Q.out.x rfl
 obtain ⟨x1, y1⟩ := cells_at (v := .int .i64 ((numB t1.data.toList : Nat) : Int)) (j := 1) Q.out.x rfl
 obtain ⟨x2, y2⟩ := cells_at (v := .int .i64 ((numB t2.data.toList : Nat) : Int)) (j := 2) Q.out.x rfl
 obtain ⟨x3, y3⟩ := cells_at (v := .string r3) (j := 3) Q.out.x rfl
 obtain ⟨a0, c0⟩ := cells_at (v := .int .i64 0) (j := 0) Q.out.s.res rfl
 obtain ⟨a1, c1⟩ := cells_at (v := .int .i64 0) (j := 1) Q.out.s.res rfl
 obtain ⟨a2, c2⟩ := cells_at (v := .int .i64 0) (j := 2) Q.out.s.res rfl
 obtain ⟨a3, c3⟩ := cells_at (v := .string ⟨#[]⟩) (j := 3) Q.out.s.res rfl
 clear g1 f1 g2 f2
 rcases HSP.out with ⟨e1, e2, e3, e4⟩ | ⟨e1, e4⟩
 ·have HE := Hid.mk e4
  subst e1
  clear e4 HSP
  go_wp2
  have hfin : (((((w4.setCell ⟨w1.heap.size, 3, none⟩ (.string r3)).setCell ⟨W.heap.size, 0, none⟩ (.int .i64 ((numB t0.data.toList : Nat) : Int))).setCell ⟨W.heap.size, 1, none⟩ (.int .i64 ((numB t1.data.toList : Nat) : Int))).setCell ⟨W.heap.size, 2, none⟩ (.int .i64 ((numB t2.data.toList : Nat) : Int))).setCell ⟨W.heap.size, 3, none⟩ (.string r3)).heap[W.heap.size]? = some (.cells #[.int .i64 ((numB t0.data.toList : Nat) : Int), .int .i64 ((numB t1.data.toList : Nat) : Int), .int .i64 ((numB t2.data.toList : Nat) : Int), .string r3] 68 (0, 0)) := cells_put (j := 3) (cells_put (j := 2) (cells_put (j := 1) (cells_put (j := 0) (Q.out.s.res) (.int .i64 ((numB t0.data.toList : Nat) : Int))) (.int .i64 ((numB t1.data.toList : Nat) : Int))) (.int .i64 ((numB t2.data.toList : Nat) : Int))) (.string r3)
  refine bodyPost_ret (v := .tuple #[.agg #[.int .i64 ((numB t0.data.toList : Nat) : Int), .int .i64 ((numB t1.data.toList : Nat) : Int), .int .i64 ((numB t2.data.toList : Nat) : Int), .string r3], .bool true]) (by simp [results, Tryz.results130, go_sem, (cells_at (v := .int .i64 ((numB t0.data.toList : Nat) : Int)) (j := 0) hfin rfl).1, (cells_at (v := .int .i64 ((numB t1.data.toList : Nat) : Int)) (j := 1) hfin rfl).1, (cells_at (v := .int .i64 ((numB t2.data.toList : Nat) : Int)) (j := 2) hfin rfl).1, (cells_at (v := .string r3) (j := 3) hfin rfl).1]) rfl ⟨.inl ⟨t0, t1, t2, r3, HE.out, rfl⟩, ((((Q.out.s.bel).setCell (p := ⟨W.heap.size, 0, none⟩) (Nat.le_refl _) _).setCell (p := ⟨W.heap.size, 1, none⟩) (Nat.le_refl _) _).setCell (p := ⟨W.heap.size, 2, none⟩) (Nat.le_refl _) _).setCell (p := ⟨W.heap.size, 3, none⟩) (Nat.le_refl _) _⟩
 ·have HE := Hid.mk e4
  clear e4 HSP
  cases b4 with
  | true =>
   clear e1
   go_wp2
   have hfin : (((((w4.setCell ⟨w1.heap.size, 3, none⟩ (.string r3)).setCell ⟨W.heap.size, 0, none⟩ (.int .i64 0)).setCell ⟨W.heap.size, 1, none⟩ (.int .i64 0)).setCell ⟨W.heap.size, 2, none⟩ (.int .i64 0)).setCell ⟨W.heap.size, 3, none⟩ (.string ⟨#[]⟩)).heap[W.heap.size]? = some (.cells #[.int .i64 0, .int .i64 0, .int .i64 0, .string ⟨#[]⟩] 68 (0, 0)) := cells_put (j := 3) (cells_put (j := 2) (cells_put (j := 1) (cells_put (j := 0) (Q.out.s.res) (.int .i64 0)) (.int .i64 0)) (.int .i64 0)) (.string ⟨#[]⟩)
   refine bodyPost_ret (v := .tuple #[.agg #[.int .i64 0, .int .i64 0, .int .i64 0, .string ⟨#[]⟩], .bool false]) (by simp [results, Tryz.results130, go_sem, (cells_at (v := .int .i64 0) (j := 0) hfin rfl).1, (cells_at (v := .int .i64 0) (j := 1) hfin rfl).1, (cells_at (v := .int .i64 0) (j := 2) hfin rfl).1, (cells_at (v := .string ⟨#[]⟩) (j := 3) hfin rfl).1]) rfl ⟨.inr ⟨HE.out, rfl⟩, ((((Q.out.s.bel).setCell (p := ⟨W.heap.size, 0, none⟩) (Nat.le_refl _) _).setCell (p := ⟨W.heap.size, 1, none⟩) (Nat.le_refl _) _).setCell (p := ⟨W.heap.size, 2, none⟩) (Nat.le_refl _) _).setCell (p := ⟨W.heap.size, 3, none⟩) (Nat.le_refl _) _⟩
  | false =>
   have e3 : 2000 < d.size := by
    have := HZ.out
    rcases e1 with h | h | h
    ·cases h
    ·omega
    ·exact h
   clear e1
   go_wp2
   have hfin : (((((w4.setCell ⟨w1.heap.size, 3, none⟩ (.string r3)).setCell ⟨W.heap.size, 0, none⟩ (.int .i64 0)).setCell ⟨W.heap.size, 1, none⟩ (.int .i64 0)).setCell ⟨W.heap.size, 2, none⟩ (.int .i64 0)).setCell ⟨W.heap.size, 3, none⟩ (.string ⟨#[]⟩)).heap[W.heap.size]? = some (.cells #[.int .i64 0, .int .i64 0, .int .i64 0, .string ⟨#[]⟩] 68 (0, 0)) := cells_put (j := 3) (cells_put (j := 2) (cells_put (j := 1) (cells_put (j := 0) (Q.out.s.res) (.int .i64 0)) (.int .i64 0)) (.int .i64 0)) (.string ⟨#[]⟩)
   refine bodyPost_ret (v := .tuple #[.agg #[.int .i64 0, .int .i64 0, .int .i64 0, .string ⟨#[]⟩], .bool false]) (by simp [results, Tryz.results130, go_sem, (cells_at (v := .int .i64 0) (j := 0) hfin rfl).1, (cells_at (v := .int .i64 0) (j := 1) hfin rfl).1, (cells_at (v := .int .i64 0) (j := 2) hfin rfl).1, (cells_at (v := .string ⟨#[]⟩) (j := 3) hfin rfl).1]) rfl ⟨.inr ⟨HE.out, rfl⟩, ((((Q.out.s.bel).setCell (p := ⟨W.heap.size, 0, none⟩) (Nat.le_refl _) _).setCell (p := ⟨W.heap.size, 1, none⟩) (Nat.le_refl _) _).setCell (p := ⟨W.heap.size, 2, none⟩) (Nat.le_refl _) _).setCell (p := ⟨W.heap.size, 3, none⟩) (Nat.le_refl _) _⟩
end Go.Proofs.YtdlcldjlfhmlgaaGreatDoor
/- Lists of types as bytes: windows of bits. Nothing here speaks of the program. -/
namespace Go.Proofs.YtdlcldjlfhmlgaaGreatDoor
open Go.RowKit
end Go.Proofs.YtdlcldjlfhmlgaaGreatDoor
/- typeList.add: one type more. -/
namespace Go.Proofs.YtdlcldjlfhmlgaaGreatDoor
open Go.RowKit
end Go.Proofs.YtdlcldjlfhmlgaaGreatDoor
/- typeList.add: one type more, in a new window. -/
namespace Go.Proofs.YtdlcldjlfhmlgaaGreatDoor
open Go.RowKit
end Go.Proofs.YtdlcldjlfhmlgaaGreatDoor
