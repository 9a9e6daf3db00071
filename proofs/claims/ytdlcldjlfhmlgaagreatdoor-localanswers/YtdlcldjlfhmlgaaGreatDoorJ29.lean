/- Texts of this proof, joined: DRefNsec3, LeB, LeC, LeDa. -/
import Derived.Test.YtdlcldjlfhmlgaaGreatDoorJ28
import Derived.BigQuiet
import Derived.Test.YtdlcldjlfhmlgaaGreatDoorJ26
import Derived.Test.YtdlcldjlfhmlgaaGreatDoorJ20
import Derived.Test.YtdlcldjlfhmlgaaGreatDoorJ27
import Derived.Deep.RegionHeld3
set_option linter.unusedVariables false
set_option linter.unusedSimpArgs false
/- NSEC3, as the document's own function takes it apart. -/
namespace Go.Proofs.YtdlcldjlfhmlgaaGreatDoor
open Go.RowKit
theorem salt_pair (r : ByteArray) (b : Bool) (hz : r.size ≤ 140737488355328) : ∃ (nn : Nat) (x1 sa x2 : ByteArray) (b1 b2 : Bool), nn ≤ 255 ∧ x1.size ≤ 140737488355328 ∧ x2.size ≤ 140737488355328 ∧
  Hid (∀ W d, RR W d r b → Calls Tryz.prog 100 #[boxV d, .int .i64 1] W fun e w' => e = .returned (.int .i64 ((nn : Nat) : Int)) ∧ RR w' d x1 b1 ∧ Kept d W w') ∧
  Hid (∀ W d, RR W d x1 b1 → Calls Tryz.prog 136 #[boxV d, .int .i64 nn] W fun e w' => e = .returned (.string sa) ∧ RR w' d x2 b2 ∧ Kept d W w') ∧
  Hid (Stp .salt r b ⟨(UInt8.ofNat nn :: sa.data.toList).toArray⟩ x2 b2) ∧ Hid (Stp .hash r b ⟨(UInt8.ofNat nn :: sa.data.toList).toArray⟩ x2 (b2 || decide (nn = 0))) := by
 have h1 := tkR_le 1 r
 have h2 := tkR_le (numB (tkS 1 r).data.toList) (tkR 1 r)
 have hn : numB (tkS 1 r).data.toList ≤ 255 := by
  have := numB_lt (tkS 1 r).data.toList
  have hl : (tkS 1 r).data.toList.length ≤ 1 := by rw [size_list]; exact (tkS_le 1 r).1
  have h2 : 256 ^ (tkS 1 r).data.toList.length ≤ 256 ^ 1 := Nat.pow_le_pow_right (by omega) hl
  omega
 exact ⟨_, _, _, _, _, _, hn, by omega, by omega, fun W d h => rNum_in W d 1 r b hz (by omega) h, fun W d h => rTake_in W d _ _ _ (by omega) (by omega) h, stp_salt r b, stp_hash (stp_salt r b)⟩
def RefNsec3Post (d : ByteArray) (e : Ending) (w' : World) : Prop := (∃ t0 t1 t2 sa nx t5 v l na nn, splitR 50 d = some [t0, t1, t2, ⟨(UInt8.ofNat na :: sa.data.toList).toArray⟩, ⟨(UInt8.ofNat nn :: nx.data.toList).toArray⟩, t5] ∧ typesR t5 = some l ∧ e = .returned (.tuple #[.agg #[.int .i64 ((numB t0.data.toList : Nat) : Int), .int .i64 ((numB t1.data.toList : Nat) : Int), .int .i64 ((numB t2.data.toList : Nat) : Int), .string sa, .string nx, v], .bool true]) ∧ IntsAt w' v (l.map fun n => ((n : Nat) : Int))) ∨ (splitR 50 d = none ∧ e = .returned (.tuple #[.agg #[.int .i64 0, .int .i64 0, .int .i64 0, .string ⟨#[]⟩, .string ⟨#[]⟩, .slice none 0 0], .bool false]))
set_option maxRecDepth 100000 in
set_option maxHeartbeats 8000000 in
theorem refNsec3_in (d : ByteArray) (hd : d.size ≤ 140737488355328) (W : World) :
  Calls Tryz.prog 133 #[.string d] W fun e w' => RefNsec3Post d e w' ∧ Below W.heap.size W w' := by
 have hmo : Tryz.prog.follows Departure.mixedOrders = true := by kernel_rfl
 have Q := Hid.mk (S0.first W 199 #[.int .i64 0, .int .i64 0, .int .i64 0, .string ⟨#[]⟩, .string ⟨#[]⟩, .slice none 0 0] d)
 obtain ⟨r0, hr0⟩ : ∃ r0, r0 = d := ⟨_, rfl⟩
 have hz0 : r0.size ≤ 140737488355328 := by rw [hr0]; exact hd
 rw [show S0 W ((W.alloc (.cells #[.int .i64 0, .int .i64 0, .int .i64 0, .string ⟨#[]⟩, .string ⟨#[]⟩, .slice none 0 0] 199)).alloc (.cells #[.string d, .bool false] 149)) W.heap.size (W.heap.size + 1) d false 199 #[.int .i64 0, .int .i64 0, .int .i64 0, .string ⟨#[]⟩, .string ⟨#[]⟩, .slice none 0 0] = S0 W ((W.alloc (.cells #[.int .i64 0, .int .i64 0, .int .i64 0, .string ⟨#[]⟩, .string ⟨#[]⟩, .slice none 0 0] 199)).alloc (.cells #[.string d, .bool false] 149)) W.heap.size (W.heap.size + 1) r0 false 199 #[.int .i64 0, .int .i64 0, .int .i64 0, .string ⟨#[]⟩, .string ⟨#[]⟩, .slice none 0 0] by rw [hr0]] at Q
 have HR0 := Hid.mk hr0
 clear hr0
 go_enter Tryz.func133, Tryz.ntmps133
 go_wp2_with fail
 refine (rNum_post (.num 1) 1 (fun _ => rfl) (by omega) _ (W.heap.size + 1) r0 false hz0 Q.out.rr).mono ?_
 rintro e w1 ⟨t0, r1, b1, rfl, hr, hk, hs, hz⟩
 have hz1 : r1.size ≤ 140737488355328 := by omega
 replace Q := Hid.mk (Q.out.call hr hk)
 have P0 := Hid.mk hs
 clear hr hk hs hz hz0
 have hW1 := Q.out.bel.size
 replace Q := Hid.mk (Q.out.new #[.int .i64 ((numB t0.data.toList : Nat) : Int), .int .i64 0, .int .i64 0, .string ⟨#[]⟩, .string ⟨#[]⟩, .slice none 0 0])
 go_wp2_with fail
 refine (rNum_post (.num 1) 1 (fun _ => rfl) (by omega) _ (W.heap.size + 1) r1 b1 hz1 Q.out.s.rr).mono ?_
 rintro e w2 ⟨t1, r2, b2, rfl, hr, hk, hs, hz⟩
 have hz2 : r2.size ≤ 140737488355328 := by omega
 replace Q := Hid.mk (Q.out.call hr hk)
 have P1 := Hid.mk hs
 clear hr hk hs hz hz1
 obtain ⟨g1, f1⟩ := cells_at (v := .int .i64 0) (j := 1) Q.out.x rfl
 replace Q : Hid (S1 W (w2.setCell ⟨w1.heap.size, 1, none⟩ (.int .i64 ((numB t1.data.toList : Nat) : Int))) W.heap.size (W.heap.size + 1) w1.heap.size r2 b2 199 #[.int .i64 0, .int .i64 0, .int .i64 0, .string ⟨#[]⟩, .string ⟨#[]⟩, .slice none 0 0] #[.int .i64 ((numB t0.data.toList : Nat) : Int), .int .i64 ((numB t1.data.toList : Nat) : Int), .int .i64 0, .string ⟨#[]⟩, .string ⟨#[]⟩, .slice none 0 0]) := Q.out.put 1 (.int .i64 ((numB t1.data.toList : Nat) : Int))
 go_wp2_with fail
 refine (rNum_post (.num 2) 2 (fun _ => rfl) (by omega) _ (W.heap.size + 1) r2 b2 hz2 Q.out.s.rr).mono ?_
 rintro e w3 ⟨t2, r3, b3, rfl, hr, hk, hs, hz⟩
 have hz3 : r3.size ≤ 140737488355328 := by omega
 replace Q := Hid.mk (Q.out.call hr hk)
 have P2 := Hid.mk hs
 clear hr hk hs hz hz2
 obtain ⟨g2, f2⟩ := cells_at (v := .int .i64 0) (j := 2) Q.out.x rfl
 replace Q : Hid (S1 W (w3.setCell ⟨w1.heap.size, 2, none⟩ (.int .i64 ((numB t2.data.toList : Nat) : Int))) W.heap.size (W.heap.size + 1) w1.heap.size r3 b3 199 #[.int .i64 0, .int .i64 0, .int .i64 0, .string ⟨#[]⟩, .string ⟨#[]⟩, .slice none 0 0] #[.int .i64 ((numB t0.data.toList : Nat) : Int), .int .i64 ((numB t1.data.toList : Nat) : Int), .int .i64 ((numB t2.data.toList : Nat) : Int), .string ⟨#[]⟩, .string ⟨#[]⟩, .slice none 0 0]) := Q.out.put 2 (.int .i64 ((numB t2.data.toList : Nat) : Int))
 go_wp2_with fail
 obtain ⟨na, ra, sa, r4, ba, b4, hna, hza, hz4, TA1, TA2, P3, _⟩ := salt_pair r3 b3 hz3
 refine (TA1.out _ _ Q.out.s.rr).mono ?_
 rintro e w4 ⟨rfl, hr, hk⟩
 replace Q := Hid.mk (Q.out.call hr hk)
 clear hr hk
 go_wp2_with fail
 refine (TA2.out _ _ Q.out.s.rr).mono ?_
 rintro e w5 ⟨rfl, hr, hk⟩
 replace Q := Hid.mk (Q.out.call hr hk)
 clear hr hk TA1 TA2
 obtain ⟨g3, f3⟩ := cells_at (v := .string ⟨#[]⟩) (j := 3) Q.out.x rfl
 replace Q : Hid (S1 W (w5.setCell ⟨w1.heap.size, 3, none⟩ (.string sa)) W.heap.size (W.heap.size + 1) w1.heap.size r4 b4 199 #[.int .i64 0, .int .i64 0, .int .i64 0, .string ⟨#[]⟩, .string ⟨#[]⟩, .slice none 0 0] #[.int .i64 ((numB t0.data.toList : Nat) : Int), .int .i64 ((numB t1.data.toList : Nat) : Int), .int .i64 ((numB t2.data.toList : Nat) : Int), .string sa, .string ⟨#[]⟩, .slice none 0 0]) := Q.out.put 3 (.string sa)
 go_wp2_with fail
 obtain ⟨nn, rn, nx, r5, bn, b5, hnn, hzn, hz5, TA1, TA2, _, P4⟩ := salt_pair r4 b4 hz4
 refine (TA1.out _ _ Q.out.s.rr).mono ?_
 rintro e w6 ⟨rfl, hr, hk⟩
 replace Q := Hid.mk (Q.out.call hr hk)
 clear hr hk
 go_wp2_with fail
 refine (TA2.out _ _ Q.out.s.rr).mono ?_
 rintro e w7 ⟨rfl, hr, hk⟩
 replace Q := Hid.mk (Q.out.call hr hk)
 clear hr hk TA1 TA2
 obtain ⟨g4, f4⟩ := cells_at (v := .string ⟨#[]⟩) (j := 4) Q.out.x rfl
 replace Q : Hid (S1 W (w7.setCell ⟨w1.heap.size, 4, none⟩ (.string nx)) W.heap.size (W.heap.size + 1) w1.heap.size r5 b5 199 #[.int .i64 0, .int .i64 0, .int .i64 0, .string ⟨#[]⟩, .string ⟨#[]⟩, .slice none 0 0] #[.int .i64 ((numB t0.data.toList : Nat) : Int), .int .i64 ((numB t1.data.toList : Nat) : Int), .int .i64 ((numB t2.data.toList : Nat) : Int), .string sa, .string nx, .slice none 0 0]) := Q.out.put 4 (.string nx)
 have hw7 : w1.heap.size + 1 ≤ (w7.setCell ⟨w1.heap.size, 4, none⟩ (.string nx)).heap.size := by have := box_lt Q.out.x; omega
 go_wp2_with fail
 refine (rTypes_in _ (W.heap.size + 1) r5 b5 hz5 Q.out.s.rr).mono ?_
 rintro e w8 ⟨v, r8, b8, l, rfl, hr, hk, hrow, hsT, htl⟩
 obtain ⟨q, c, hv⟩ := row_as hrow
 subst hv
 replace Q := Hid.mk (Q.out.call hr hk)
 have PT := Hid.mk hsT
 have HTL := Hid.mk htl
 clear hr hk hsT htl
 obtain ⟨gT, fT⟩ := cells_at (v := .slice none 0 0) (j := 5) Q.out.x rfl
 replace Q : Hid (S1 W (w8.setCell ⟨w1.heap.size, 5, none⟩ (.slice q l.length c)) W.heap.size (W.heap.size + 1) w1.heap.size r8 b8 199 #[.int .i64 0, .int .i64 0, .int .i64 0, .string ⟨#[]⟩, .string ⟨#[]⟩, .slice none 0 0] #[.int .i64 ((numB t0.data.toList : Nat) : Int), .int .i64 ((numB t1.data.toList : Nat) : Int), .int .i64 ((numB t2.data.toList : Nat) : Int), .string sa, .string nx, .slice q l.length c]) := Q.out.put 5 (.slice q l.length c)
 have hWlt : W.heap.size < w1.heap.size + 1 := by omega
 have rwx := ownsRow_setCell_below (row_down hrow hw7) (a := ⟨w1.heap.size, 5, none⟩) (Nat.lt_succ_self _) (.slice q l.length c)
 have RWX := Hid.mk rwx
 clear rwx hrow hw7
 have HC : Hid (Chn (formOf 50) r0 false [t0, t1, t2, ⟨(UInt8.ofNat na :: sa.data.toList).toArray⟩, ⟨(UInt8.ofNat nn :: nx.data.toList).toArray⟩, r5] r8 (b8 || decide (nn = 0))) := (Chn.cons P0.out (Chn.cons P1.out (Chn.cons P2.out (Chn.cons P3.out (Chn.cons P4.out (Chn.cons (PT.out.or _) Chn.nil))))))
 have HSP := Hid.mk (HC.out.split (by omega))
 rw [HR0.out] at HSP
 have HZ : Hid (b8 = false → r8.size = 0) := fun hb => stp_types_end PT.out hb
 clear HC P0 P1 P2 P3 P4 PT g1 f1 g2 f2 g3 f3 g4 f4
 obtain ⟨u0, v0⟩ := Q.out.s.rr.c0
 obtain ⟨u1, v1⟩ := Q.out.s.rr.c1
 obtain ⟨x0, y0⟩ := cells_at (v := .int .i64 ((numB t0.data.toList : Nat) : Int)) (j := 0) Q.out.x rfl
 obtain ⟨x1, y1⟩ := cells_at (v := .int .i64 ((numB t1.data.toList : Nat) : Int)) (j := 1) Q.out.x rfl
 obtain ⟨x2, y2⟩ := cells_at (v := .int .i64 ((numB t2.data.toList : Nat) : Int)) (j := 2) Q.out.x rfl
 obtain ⟨x3, y3⟩ := cells_at (v := .string sa) (j := 3) Q.out.x rfl
 obtain ⟨x4, y4⟩ := cells_at (v := .string nx) (j := 4) Q.out.x rfl
 obtain ⟨x5, y5⟩ := cells_at (v := .slice q l.length c) (j := 5) Q.out.x rfl
 obtain ⟨a0, c0⟩ := cells_at (v := .int .i64 0) (j := 0) Q.out.s.res rfl
 obtain ⟨a1, c1⟩ := cells_at (v := .int .i64 0) (j := 1) Q.out.s.res rfl
 obtain ⟨a2, c2⟩ := cells_at (v := .int .i64 0) (j := 2) Q.out.s.res rfl
 obtain ⟨a3, c3⟩ := cells_at (v := .string ⟨#[]⟩) (j := 3) Q.out.s.res rfl
 obtain ⟨a4, c4⟩ := cells_at (v := .string ⟨#[]⟩) (j := 4) Q.out.s.res rfl
 obtain ⟨a5, c5⟩ := cells_at (v := .slice none 0 0) (j := 5) Q.out.s.res rfl
 rcases HSP.out with ⟨e1, e2, e3, e4⟩ | ⟨e1, e4⟩
 ·have HE := Hid.mk e4
  obtain ⟨e5, e6⟩ := Bool.or_eq_false_iff.1 e1
  have hn0 : nn ≠ 0 := of_decide_eq_false e6
  have hnb : (((nn : Nat) : Int) == 0) = false := by rw [beq_eq_false_iff_ne]; omega
  subst e5
  have HT2 := Hid.mk (HTL.out rfl)
  clear e4 e1 e6 HSP HTL
  go_wp2
  have st0 : ((w8.setCell ⟨w1.heap.size, 5, none⟩ (.slice q l.length c)).setCell ⟨W.heap.size, 0, none⟩ (.int .i64 ((numB t0.data.toList : Nat) : Int))).heap[W.heap.size]? = some (.cells #[.int .i64 ((numB t0.data.toList : Nat) : Int), .int .i64 0, .int .i64 0, .string ⟨#[]⟩, .string ⟨#[]⟩, .slice none 0 0] 199 (0, 0)) := cells_put (j := 0) Q.out.s.res (.int .i64 ((numB t0.data.toList : Nat) : Int))
  have rw0 := ownsRow_setCell_below RWX.out (a := ⟨W.heap.size, 0, none⟩) hWlt (.int .i64 ((numB t0.data.toList : Nat) : Int))
  have st1 : (((w8.setCell ⟨w1.heap.size, 5, none⟩ (.slice q l.length c)).setCell ⟨W.heap.size, 0, none⟩ (.int .i64 ((numB t0.data.toList : Nat) : Int))).setCell ⟨W.heap.size, 1, none⟩ (.int .i64 ((numB t1.data.toList : Nat) : Int))).heap[W.heap.size]? = some (.cells #[.int .i64 ((numB t0.data.toList : Nat) : Int), .int .i64 ((numB t1.data.toList : Nat) : Int), .int .i64 0, .string ⟨#[]⟩, .string ⟨#[]⟩, .slice none 0 0] 199 (0, 0)) := cells_put (j := 1) st0 (.int .i64 ((numB t1.data.toList : Nat) : Int))
  have rw1 := ownsRow_setCell_below rw0 (a := ⟨W.heap.size, 1, none⟩) hWlt (.int .i64 ((numB t1.data.toList : Nat) : Int))
  have st2 : ((((w8.setCell ⟨w1.heap.size, 5, none⟩ (.slice q l.length c)).setCell ⟨W.heap.size, 0, none⟩ (.int .i64 ((numB t0.data.toList : Nat) : Int))).setCell ⟨W.heap.size, 1, none⟩ (.int .i64 ((numB t1.data.toList : Nat) : Int))).setCell ⟨W.heap.size, 2, none⟩ (.int .i64 ((numB t2.data.toList : Nat) : Int))).heap[W.heap.size]? = some (.cells #[.int .i64 ((numB t0.data.toList : Nat) : Int), .int .i64 ((numB t1.data.toList : Nat) : Int), .int .i64 ((numB t2.data.toList : Nat) : Int), .string ⟨#[]⟩, .string ⟨#[]⟩, .slice none 0 0] 199 (0, 0)) := cells_put (j := 2) st1 (.int .i64 ((numB t2.data.toList : Nat) : Int))
  have rw2 := ownsRow_setCell_below rw1 (a := ⟨W.heap.size, 2, none⟩) hWlt (.int .i64 ((numB t2.data.toList : Nat) : Int))
  have st3 : (((((w8.setCell ⟨w1.heap.size, 5, none⟩ (.slice q l.length c)).setCell ⟨W.heap.size, 0, none⟩ (.int .i64 ((numB t0.data.toList : Nat) : Int))).setCell ⟨W.heap.size, 1, none⟩ (.int .i64 ((numB t1.data.toList : Nat) : Int))).setCell ⟨W.heap.size, 2, none⟩ (.int .i64 ((numB t2.data.toList : Nat) : Int))).setCell ⟨W.heap.size, 3, none⟩ (.string sa)).heap[W.heap.size]? = some (.cells #[.int .i64 ((numB t0.data.toList : Nat) : Int), .int .i64 ((numB t1.data.toList : Nat) : Int), .int .i64 ((numB t2.data.toList : Nat) : Int), .string sa, .string ⟨#[]⟩, .slice none 0 0] 199 (0, 0)) := cells_put (j := 3) st2 (.string sa)
  have rw3 := ownsRow_setCell_below rw2 (a := ⟨W.heap.size, 3, none⟩) hWlt (.string sa)
  have st4 : ((((((w8.setCell ⟨w1.heap.size, 5, none⟩ (.slice q l.length c)).setCell ⟨W.heap.size, 0, none⟩ (.int .i64 ((numB t0.data.toList : Nat) : Int))).setCell ⟨W.heap.size, 1, none⟩ (.int .i64 ((numB t1.data.toList : Nat) : Int))).setCell ⟨W.heap.size, 2, none⟩ (.int .i64 ((numB t2.data.toList : Nat) : Int))).setCell ⟨W.heap.size, 3, none⟩ (.string sa)).setCell ⟨W.heap.size, 4, none⟩ (.string nx)).heap[W.heap.size]? = some (.cells #[.int .i64 ((numB t0.data.toList : Nat) : Int), .int .i64 ((numB t1.data.toList : Nat) : Int), .int .i64 ((numB t2.data.toList : Nat) : Int), .string sa, .string nx, .slice none 0 0] 199 (0, 0)) := cells_put (j := 4) st3 (.string nx)
  have rw4 := ownsRow_setCell_below rw3 (a := ⟨W.heap.size, 4, none⟩) hWlt (.string nx)
  have st5 : (((((((w8.setCell ⟨w1.heap.size, 5, none⟩ (.slice q l.length c)).setCell ⟨W.heap.size, 0, none⟩ (.int .i64 ((numB t0.data.toList : Nat) : Int))).setCell ⟨W.heap.size, 1, none⟩ (.int .i64 ((numB t1.data.toList : Nat) : Int))).setCell ⟨W.heap.size, 2, none⟩ (.int .i64 ((numB t2.data.toList : Nat) : Int))).setCell ⟨W.heap.size, 3, none⟩ (.string sa)).setCell ⟨W.heap.size, 4, none⟩ (.string nx)).setCell ⟨W.heap.size, 5, none⟩ (.slice q l.length c)).heap[W.heap.size]? = some (.cells #[.int .i64 ((numB t0.data.toList : Nat) : Int), .int .i64 ((numB t1.data.toList : Nat) : Int), .int .i64 ((numB t2.data.toList : Nat) : Int), .string sa, .string nx, .slice q l.length c] 199 (0, 0)) := cells_put (j := 5) st4 (.slice q l.length c)
  have rw5 := ownsRow_setCell_below rw4 (a := ⟨W.heap.size, 5, none⟩) hWlt (.slice q l.length c)
  have hfin := st5
  refine bodyPost_ret (v := .tuple #[.agg #[.int .i64 ((numB t0.data.toList : Nat) : Int), .int .i64 ((numB t1.data.toList : Nat) : Int), .int .i64 ((numB t2.data.toList : Nat) : Int), .string sa, .string nx, .slice q l.length c], .bool true]) (by simp [results, Tryz.results133, go_sem, (cells_at (v := .int .i64 ((numB t0.data.toList : Nat) : Int)) (j := 0) hfin rfl).1, (cells_at (v := .int .i64 ((numB t1.data.toList : Nat) : Int)) (j := 1) hfin rfl).1, (cells_at (v := .int .i64 ((numB t2.data.toList : Nat) : Int)) (j := 2) hfin rfl).1, (cells_at (v := .string sa) (j := 3) hfin rfl).1, (cells_at (v := .string nx) (j := 4) hfin rfl).1, (cells_at (v := .slice q l.length c) (j := 5) hfin rfl).1]) rfl ⟨.inl ⟨t0, t1, t2, sa, nx, r5, _, l, na, nn, HE.out, HT2.out, rfl, ints_of_row rw5⟩, ((((((Q.out.s.bel).setCell (p := ⟨W.heap.size, 0, none⟩) (Nat.le_refl _) _).setCell (p := ⟨W.heap.size, 1, none⟩) (Nat.le_refl _) _).setCell (p := ⟨W.heap.size, 2, none⟩) (Nat.le_refl _) _).setCell (p := ⟨W.heap.size, 3, none⟩) (Nat.le_refl _) _).setCell (p := ⟨W.heap.size, 4, none⟩) (Nat.le_refl _) _).setCell (p := ⟨W.heap.size, 5, none⟩) (Nat.le_refl _) _⟩
 ·have HE := Hid.mk e4
  clear e4 HSP HTL
  cases b8 with
  | true =>
   clear e1 HZ
   go_wp2
   have st0 : ((w8.setCell ⟨w1.heap.size, 5, none⟩ (.slice q l.length c)).setCell ⟨W.heap.size, 0, none⟩ (.int .i64 0)).heap[W.heap.size]? = some (.cells #[.int .i64 0, .int .i64 0, .int .i64 0, .string ⟨#[]⟩, .string ⟨#[]⟩, .slice none 0 0] 199 (0, 0)) := cells_put (j := 0) Q.out.s.res (.int .i64 0)
   have st1 : (((w8.setCell ⟨w1.heap.size, 5, none⟩ (.slice q l.length c)).setCell ⟨W.heap.size, 0, none⟩ (.int .i64 0)).setCell ⟨W.heap.size, 1, none⟩ (.int .i64 0)).heap[W.heap.size]? = some (.cells #[.int .i64 0, .int .i64 0, .int .i64 0, .string ⟨#[]⟩, .string ⟨#[]⟩, .slice none 0 0] 199 (0, 0)) := cells_put (j := 1) st0 (.int .i64 0)
   have st2 : ((((w8.setCell ⟨w1.heap.size, 5, none⟩ (.slice q l.length c)).setCell ⟨W.heap.size, 0, none⟩ (.int .i64 0)).setCell ⟨W.heap.size, 1, none⟩ (.int .i64 0)).setCell ⟨W.heap.size, 2, none⟩ (.int .i64 0)).heap[W.heap.size]? = some (.cells #[.int .i64 0, .int .i64 0, .int .i64 0, .string ⟨#[]⟩, .string ⟨#[]⟩, .slice none 0 0] 199 (0, 0)) := cells_put (j := 2) st1 (.int .i64 0)
   have st3 : (((((w8.setCell ⟨w1.heap.size, 5, none⟩ (.slice q l.length c)).setCell ⟨W.heap.size, 0, none⟩ (.int .i64 0)).setCell ⟨W.heap.size, 1, none⟩ (.int .i64 0)).setCell ⟨W.heap.size, 2, none⟩ (.int .i64 0)).setCell ⟨W.heap.size, 3, none⟩ (.string ⟨#[]⟩)).heap[W.heap.size]? = some (.cells #[.int .i64 0, .int .i64 0, .int .i64 0, .string ⟨#[]⟩, .string ⟨#[]⟩, .slice none 0 0] 199 (0, 0)) := cells_put (j := 3) st2 (.string ⟨#[]⟩)
   have st4 : ((((((w8.setCell ⟨w1.heap.size, 5, none⟩ (.slice q l.length c)).setCell ⟨W.heap.size, 0, none⟩ (.int .i64 0)).setCell ⟨W.heap.size, 1, none⟩ (.int .i64 0)).setCell ⟨W.heap.size, 2, none⟩ (.int .i64 0)).setCell ⟨W.heap.size, 3, none⟩ (.string ⟨#[]⟩)).setCell ⟨W.heap.size, 4, none⟩ (.string ⟨#[]⟩)).heap[W.heap.size]? = some (.cells #[.int .i64 0, .int .i64 0, .int .i64 0, .string ⟨#[]⟩, .string ⟨#[]⟩, .slice none 0 0] 199 (0, 0)) := cells_put (j := 4) st3 (.string ⟨#[]⟩)
   have st5 : (((((((w8.setCell ⟨w1.heap.size, 5, none⟩ (.slice q l.length c)).setCell ⟨W.heap.size, 0, none⟩ (.int .i64 0)).setCell ⟨W.heap.size, 1, none⟩ (.int .i64 0)).setCell ⟨W.heap.size, 2, none⟩ (.int .i64 0)).setCell ⟨W.heap.size, 3, none⟩ (.string ⟨#[]⟩)).setCell ⟨W.heap.size, 4, none⟩ (.string ⟨#[]⟩)).setCell ⟨W.heap.size, 5, none⟩ (.slice none 0 0)).heap[W.heap.size]? = some (.cells #[.int .i64 0, .int .i64 0, .int .i64 0, .string ⟨#[]⟩, .string ⟨#[]⟩, .slice none 0 0] 199 (0, 0)) := cells_put (j := 5) st4 (.slice none 0 0)
   have hfin := st5
   refine bodyPost_ret (v := .tuple #[.agg #[.int .i64 0, .int .i64 0, .int .i64 0, .string ⟨#[]⟩, .string ⟨#[]⟩, .slice none 0 0], .bool false]) (by simp [results, Tryz.results133, go_sem, (cells_at (v := .int .i64 0) (j := 0) hfin rfl).1, (cells_at (v := .int .i64 0) (j := 1) hfin rfl).1, (cells_at (v := .int .i64 0) (j := 2) hfin rfl).1, (cells_at (v := .string ⟨#[]⟩) (j := 3) hfin rfl).1, (cells_at (v := .string ⟨#[]⟩) (j := 4) hfin rfl).1, (cells_at (v := .slice none 0 0) (j := 5) hfin rfl).1]) rfl ⟨.inr ⟨HE.out, rfl⟩, ((((((Q.out.s.bel).setCell (p := ⟨W.heap.size, 0, none⟩) (Nat.le_refl _) _).setCell (p := ⟨W.heap.size, 1, none⟩) (Nat.le_refl _) _).setCell (p := ⟨W.heap.size, 2, none⟩) (Nat.le_refl _) _).setCell (p := ⟨W.heap.size, 3, none⟩) (Nat.le_refl _) _).setCell (p := ⟨W.heap.size, 4, none⟩) (Nat.le_refl _) _).setCell (p := ⟨W.heap.size, 5, none⟩) (Nat.le_refl _) _⟩
  | false =>
   by_cases hn0 : nn = 0
   ·have hnb : (((nn : Nat) : Int) == 0) = true := by rw [hn0]; rfl
    clear e1 HZ hn0
    go_wp2
    have st0 : ((w8.setCell ⟨w1.heap.size, 5, none⟩ (.slice q l.length c)).setCell ⟨W.heap.size, 0, none⟩ (.int .i64 0)).heap[W.heap.size]? = some (.cells #[.int .i64 0, .int .i64 0, .int .i64 0, .string ⟨#[]⟩, .string ⟨#[]⟩, .slice none 0 0] 199 (0, 0)) := cells_put (j := 0) Q.out.s.res (.int .i64 0)
    have st1 : (((w8.setCell ⟨w1.heap.size, 5, none⟩ (.slice q l.length c)).setCell ⟨W.heap.size, 0, none⟩ (.int .i64 0)).setCell ⟨W.heap.size, 1, none⟩ (.int .i64 0)).heap[W.heap.size]? = some (.cells #[.int .i64 0, .int .i64 0, .int .i64 0, .string ⟨#[]⟩, .string ⟨#[]⟩, .slice none 0 0] 199 (0, 0)) := cells_put (j := 1) st0 (.int .i64 0)
    have st2 : ((((w8.setCell ⟨w1.heap.size, 5, none⟩ (.slice q l.length c)).setCell ⟨W.heap.size, 0, none⟩ (.int .i64 0)).setCell ⟨W.heap.size, 1, none⟩ (.int .i64 0)).setCell ⟨W.heap.size, 2, none⟩ (.int .i64 0)).heap[W.heap.size]? = some (.cells #[.int .i64 0, .int .i64 0, .int .i64 0, .string ⟨#[]⟩, .string ⟨#[]⟩, .slice none 0 0] 199 (0, 0)) := cells_put (j := 2) st1 (.int .i64 0)
    have st3 : (((((w8.setCell ⟨w1.heap.size, 5, none⟩ (.slice q l.length c)).setCell ⟨W.heap.size, 0, none⟩ (.int .i64 0)).setCell ⟨W.heap.size, 1, none⟩ (.int .i64 0)).setCell ⟨W.heap.size, 2, none⟩ (.int .i64 0)).setCell ⟨W.heap.size, 3, none⟩ (.string ⟨#[]⟩)).heap[W.heap.size]? = some (.cells #[.int .i64 0, .int .i64 0, .int .i64 0, .string ⟨#[]⟩, .string ⟨#[]⟩, .slice none 0 0] 199 (0, 0)) := cells_put (j := 3) st2 (.string ⟨#[]⟩)
    have st4 : ((((((w8.setCell ⟨w1.heap.size, 5, none⟩ (.slice q l.length c)).setCell ⟨W.heap.size, 0, none⟩ (.int .i64 0)).setCell ⟨W.heap.size, 1, none⟩ (.int .i64 0)).setCell ⟨W.heap.size, 2, none⟩ (.int .i64 0)).setCell ⟨W.heap.size, 3, none⟩ (.string ⟨#[]⟩)).setCell ⟨W.heap.size, 4, none⟩ (.string ⟨#[]⟩)).heap[W.heap.size]? = some (.cells #[.int .i64 0, .int .i64 0, .int .i64 0, .string ⟨#[]⟩, .string ⟨#[]⟩, .slice none 0 0] 199 (0, 0)) := cells_put (j := 4) st3 (.string ⟨#[]⟩)
    have st5 : (((((((w8.setCell ⟨w1.heap.size, 5, none⟩ (.slice q l.length c)).setCell ⟨W.heap.size, 0, none⟩ (.int .i64 0)).setCell ⟨W.heap.size, 1, none⟩ (.int .i64 0)).setCell ⟨W.heap.size, 2, none⟩ (.int .i64 0)).setCell ⟨W.heap.size, 3, none⟩ (.string ⟨#[]⟩)).setCell ⟨W.heap.size, 4, none⟩ (.string ⟨#[]⟩)).setCell ⟨W.heap.size, 5, none⟩ (.slice none 0 0)).heap[W.heap.size]? = some (.cells #[.int .i64 0, .int .i64 0, .int .i64 0, .string ⟨#[]⟩, .string ⟨#[]⟩, .slice none 0 0] 199 (0, 0)) := cells_put (j := 5) st4 (.slice none 0 0)
    have hfin := st5
    refine bodyPost_ret (v := .tuple #[.agg #[.int .i64 0, .int .i64 0, .int .i64 0, .string ⟨#[]⟩, .string ⟨#[]⟩, .slice none 0 0], .bool false]) (by simp [results, Tryz.results133, go_sem, (cells_at (v := .int .i64 0) (j := 0) hfin rfl).1, (cells_at (v := .int .i64 0) (j := 1) hfin rfl).1, (cells_at (v := .int .i64 0) (j := 2) hfin rfl).1, (cells_at (v := .string ⟨#[]⟩) (j := 3) hfin rfl).1, (cells_at (v := .string ⟨#[]⟩) (j := 4) hfin rfl).1, (cells_at (v := .slice none 0 0) (j := 5) hfin rfl).1]) rfl ⟨.inr ⟨HE.out, rfl⟩, ((((((Q.out.s.bel).setCell (p := ⟨W.heap.size, 0, none⟩) (Nat.le_refl _) _).setCell (p := ⟨W.heap.size, 1, none⟩) (Nat.le_refl _) _).setCell (p := ⟨W.heap.size, 2, none⟩) (Nat.le_refl _) _).setCell (p := ⟨W.heap.size, 3, none⟩) (Nat.le_refl _) _).setCell (p := ⟨W.heap.size, 4, none⟩) (Nat.le_refl _) _).setCell (p := ⟨W.heap.size, 5, none⟩) (Nat.le_refl _) _⟩
   ·have hnb : (((nn : Nat) : Int) == 0) = false := by rw [beq_eq_false_iff_ne]; omega
    have e3 : 2000 < d.size := by
     have := HZ.out rfl
     rw [decide_eq_false hn0] at e1
     rcases e1 with h | h | h
     ·cases h
     ·omega
     ·exact h
    clear e1 HZ
    go_wp2
    have st0 : ((w8.setCell ⟨w1.heap.size, 5, none⟩ (.slice q l.length c)).setCell ⟨W.heap.size, 0, none⟩ (.int .i64 0)).heap[W.heap.size]? = some (.cells #[.int .i64 0, .int .i64 0, .int .i64 0, .string ⟨#[]⟩, .string ⟨#[]⟩, .slice none 0 0] 199 (0, 0)) := cells_put (j := 0) Q.out.s.res (.int .i64 0)
    have st1 : (((w8.setCell ⟨w1.heap.size, 5, none⟩ (.slice q l.length c)).setCell ⟨W.heap.size, 0, none⟩ (.int .i64 0)).setCell ⟨W.heap.size, 1, none⟩ (.int .i64 0)).heap[W.heap.size]? = some (.cells #[.int .i64 0, .int .i64 0, .int .i64 0, .string ⟨#[]⟩, .string ⟨#[]⟩, .slice none 0 0] 199 (0, 0)) := cells_put (j := 1) st0 (.int .i64 0)
    have st2 : ((((w8.setCell ⟨w1.heap.size, 5, none⟩ (.slice q l.length c)).setCell ⟨W.heap.size, 0, none⟩ (.int .i64 0)).setCell ⟨W.heap.size, 1, none⟩ (.int .i64 0)).setCell ⟨W.heap.size, 2, none⟩ (.int .i64 0)).heap[W.heap.size]? = some (.cells #[.int .i64 0, .int .i64 0, .int .i64 0, .string ⟨#[]⟩, .string ⟨#[]⟩, .slice none 0 0] 199 (0, 0)) := cells_put (j := 2) st1 (.int .i64 0)
    have st3 : (((((w8.setCell ⟨w1.heap.size, 5, none⟩ (.slice q l.length c)).setCell ⟨W.heap.size, 0, none⟩ (.int .i64 0)).setCell ⟨W.heap.size, 1, none⟩ (.int .i64 0)).setCell ⟨W.heap.size, 2, none⟩ (.int .i64 0)).setCell ⟨W.heap.size, 3, none⟩ (.string ⟨#[]⟩)).heap[W.heap.size]? = some (.cells #[.int .i64 0, .int .i64 0, .int .i64 0, .string ⟨#[]⟩, .string ⟨#[]⟩, .slice none 0 0] 199 (0, 0)) := cells_put (j := 3) st2 (.string ⟨#[]⟩)
    have st4 : ((((((w8.setCell ⟨w1.heap.size, 5, none⟩ (.slice q l.length c)).setCell ⟨W.heap.size, 0, none⟩ (.int .i64 0)).setCell ⟨W.heap.size, 1, none⟩ (.int .i64 0)).setCell ⟨W.heap.size, 2, none⟩ (.int .i64 0)).setCell ⟨W.heap.size, 3, none⟩ (.string ⟨#[]⟩)).setCell ⟨W.heap.size, 4, none⟩ (.string ⟨#[]⟩)).heap[W.heap.size]? = some (.cells #[.int .i64 0, .int .i64 0, .int .i64 0, .string ⟨#[]⟩, .string ⟨#[]⟩, .slice none 0 0] 199 (0, 0)) := cells_put (j := 4) st3 (.string ⟨#[]⟩)
    have st5 : (((((((w8.setCell ⟨w1.heap.size, 5, none⟩ (.slice q l.length c)).setCell ⟨W.heap.size, 0, none⟩ (.int .i64 0)).setCell ⟨W.heap.size, 1, none⟩ (.int .i64 0)).setCell ⟨W.heap.size, 2, none⟩ (.int .i64 0)).setCell ⟨W.heap.size, 3, none⟩ (.string ⟨#[]⟩)).setCell ⟨W.heap.size, 4, none⟩ (.string ⟨#[]⟩)).setCell ⟨W.heap.size, 5, none⟩ (.slice none 0 0)).heap[W.heap.size]? = some (.cells #[.int .i64 0, .int .i64 0, .int .i64 0, .string ⟨#[]⟩, .string ⟨#[]⟩, .slice none 0 0] 199 (0, 0)) := cells_put (j := 5) st4 (.slice none 0 0)
    have hfin := st5
    refine bodyPost_ret (v := .tuple #[.agg #[.int .i64 0, .int .i64 0, .int .i64 0, .string ⟨#[]⟩, .string ⟨#[]⟩, .slice none 0 0], .bool false]) (by simp [results, Tryz.results133, go_sem, (cells_at (v := .int .i64 0) (j := 0) hfin rfl).1, (cells_at (v := .int .i64 0) (j := 1) hfin rfl).1, (cells_at (v := .int .i64 0) (j := 2) hfin rfl).1, (cells_at (v := .string ⟨#[]⟩) (j := 3) hfin rfl).1, (cells_at (v := .string ⟨#[]⟩) (j := 4) hfin rfl).1, (cells_at (v := .slice none 0 0) (j := 5) hfin rfl).1]) rfl ⟨.inr ⟨HE.out, rfl⟩, ((((((Q.out.s.bel).setCell (p := ⟨W.heap.size, 0, none⟩) (Nat.le_refl _) _).setCell (p := ⟨W.heap.size, 1, none⟩) (Nat.le_refl _) _).setCell (p := ⟨W.heap.size, 2, none⟩) (Nat.le_refl _) _).setCell (p := ⟨W.heap.size, 3, none⟩) (Nat.le_refl _) _).setCell (p := ⟨W.heap.size, 4, none⟩) (Nat.le_refl _) _).setCell (p := ⟨W.heap.size, 5, none⟩) (Nat.le_refl _) _⟩
end Go.Proofs.YtdlcldjlfhmlgaaGreatDoor
/- The document's mx and strings (guidepostref02): MX and TXT taken apart. -/
namespace Go.Proofs.YtdlcldjlfhmlgaaGreatDoor
open Go.RowKit
theorem RR.new (W : World) (d : ByteArray) : RR (W.alloc (.cells #[.string d, .bool false] 149)) W.heap.size d false := heap_new _ _
theorem dRt_no {k : Int} {d : ByteArray} (h : ¬ ((0 ≤ k ∧ k ≤ 65535) ∧ d.size ≤ 2000)) : dRt k d = false := by rw [dRt, split_none k d h]; rfl
theorem dRt_le {k : Int} {d : ByteArray} (h : dRt k d = true) : d.size ≤ 2000 := by
 by_cases hs : d.size ≤ 2000
 ·exact hs
 ·rw [dRt_no (fun hh => hs hh.2)] at h; cases h
theorem dRt_one {k : Int} {p : PK} (hf : formOf k = [p]) (hk : 0 ≤ k ∧ k ≤ 65535) {d : ByteArray} (hd : d.size ≤ 2000) : dRt k d = true ↔ Good p d := by
 rw [dRt, Option.isSome_iff_exists]
 constructor
 ·rintro ⟨xs, h⟩
  obtain ⟨_, _, e, g⟩ := (split_iff k d xs).1 h
  rw [hf] at g
  match xs, g with
  | [x], g =>
   have : d = x := by rw [e, cat_one]
   rw [this]
   exact g.1
 ·intro g
  exact ⟨[d], (split_iff k d [d]).2 ⟨hk, hd, (cat_one d).symm, by rw [hf]; exact ⟨g, trivial⟩⟩⟩
theorem bool_of_iff {b c : Bool} (h : b = true ↔ c = true) : b = c := Bool.eq_iff_iff.2 h
theorem row_form' {w : World} {N n : Nat} {v : Value} {l : List Value} {e size : Nat} (h : w.ownsRow N e size v n l) : ∃ q cap, v = .slice q n cap := by
 obtain ⟨hl, ⟨rfl, rfl⟩ | ⟨g, cap, cur, hv, hg0, hg, hn, hm, hs, ht⟩⟩ := h
 ·exact ⟨_, _, rfl⟩
 ·exact ⟨_, _, hv⟩
theorem form15 : formOf 15 = [.num 2, .name] := rfl
theorem form16 : formOf 16 = [.strs] := rfl
set_option maxRecDepth 100000 in
set_option maxHeartbeats 2000000 in
theorem rMx_in (d : ByteArray) (hd : d.size ≤ 2000) (W : World) :
  Calls Tryz.prog 128 #[.string d] W fun e w' => (∃ n t, e = .returned (.tuple #[.int .i64 n, .string t, .bool (dRt 15 d)])) ∧ Below W.heap.size W w' := by
 have Q := Hid.mk (RR.new W d)
 have B0 : Hid (Below W.heap.size W (W.alloc (.cells #[.string d, .bool false] 149))) := (Below.refl _ _).alloc (Nat.le_refl _) _
 obtain ⟨R, hR⟩ : ∃ R, dRt 15 d = R := ⟨_, rfl⟩
 rw [hR]
 have HR := Hid.mk hR
 clear hR
 go_enter Tryz.func128, Tryz.ntmps128
 go_wp2_with fail
 refine (rNum_post (.num 2) 2 (fun _ => rfl) (by omega) _ W.heap.size d false (by omega) Q.out).mono ?_
 rintro e w1 ⟨t0, r1, b1, rfl, hr1, hk1, hs1, hz1⟩
 have B1 := Hid.mk (B0.out.trans (hk1.below (Nat.le_refl _) B0.out.size))
 have P1 := Hid.mk hs1
 clear hk1 hs1 B0 Q
 go_wp2_with fail
 refine (rName_in _ W.heap.size r1 b1 (by omega) hr1).mono ?_
 rintro e w2 ⟨t1, r2, b2, rfl, hr2, hk2, hs2, hz2⟩
 have B2 := Hid.mk (B1.out.trans (hk2.below (Nat.le_refl _) B1.out.size))
 have HC : Hid (Chn (formOf 15) d false [t0, t1] r2 b2) := by rw [form15]; exact .cons P1.out (.cons hs2 .nil)
 have HSP := Hid.mk (HC.out.split (k := 15) (by omega))
 obtain ⟨g0, f0⟩ := hr2.c0
 obtain ⟨g1, f1⟩ := hr2.c1
 clear hk2 hs2 P1 HC B1 hr1 hr2
 rcases HSP.out with ⟨e1, e2, e3, e4⟩ | ⟨e1, e4⟩
 ·obtain rfl : true = R := by rw [← HR.out, dRt, e4]; rfl
  subst e1
  obtain rfl := ba_empty _ e2
  clear HSP HR e4
  go_wp2
  go_quiet (fail)
  go_wp2
  go_ret3
  exact ⟨⟨_, _, rfl⟩, below_drewN B2.out _⟩
 ·obtain rfl : false = R := by rw [← HR.out, dRt, e4]; rfl
  clear HSP HR e4
  cases b2 with
  | true =>
   clear e1
   go_wp2
   go_quiet (fail)
   go_wp2
   go_ret3
   exact ⟨⟨_, _, rfl⟩, below_drewN B2.out _⟩
  | false =>
   have h0 : 0 < r2.size := by
    rcases e1 with h | h | h
    ·cases h
    ·exact h
    ·omega
   obtain ⟨hn1, hn2⟩ := ne_text r2 h0
   have hn3 := ne_bne r2 h0
   clear e1
   go_wp2
   go_quiet (fail)
   go_wp2
   go_ret3
   exact ⟨⟨_, _, rfl⟩, below_drewN B2.out _⟩
theorem dRt_strs (d : ByteArray) (hd : d.size ≤ 2000) : dRt 16 d = (decide (0 < d.size) && moreOk (d.size + 1) d) := by
 refine bool_of_iff ((dRt_one form16 (by omega) hd).trans ?_)
 show txtPf 0 d = some d.size ↔ _
 unfold txtPf
 rw [Bool.and_eq_true, decide_eq_true_iff]
 split
 ·rename_i h; exact ⟨fun _ => h, fun _ => rfl⟩
 ·rename_i h; exact ⟨(fun e => by cases e), fun e => absurd e h⟩
structure StrS (d : ByteArray) (W : World) (v : Value) (x : ByteArray) (b : Bool) (n : Nat) (ls : List (List UInt8)) (wr : World) : Prop where
 rr : RR wr W.heap.size x b
 row : wr.ownsRow (W.heap.size + 1) 9 1 v ls.length (strsV ls)
 few : ls.length + x.size ≤ 2000
 bad : b = true → moreOk (d.size + 1) d = false
 go : b = false → moreOk (d.size + 1) d = moreOk (n + 1) x ∧ x.size ≤ n
 ne : 0 < ls.length ∨ b = true ∨ x.size = d.size
 nz : 0 < ls.length → 0 < d.size
 bel : Below W.heap.size W wr
set_option maxRecDepth 100000 in
set_option maxHeartbeats 4000000 in
theorem rStrings_in (d : ByteArray) (hd : d.size ≤ 2000) (W : World) :
  Calls Tryz.prog 129 #[.string d] W fun e w' => (∃ v, e = .returned (.tuple #[v, .bool (dRt 16 d)])) ∧ Below W.heap.size W w' := by
 obtain ⟨i0, hi, hz0, hz1, hz2⟩ := info_parts info9
 have B0 : Below W.heap.size W (W.alloc (.cells #[.string d, .bool false] 149)) := (Below.refl _ _).alloc (Nat.le_refl _) _
 have Q : Hid (StrS d W (.slice none 0 0) d false d.size [] (W.alloc (.cells #[.string d, .bool false] 149))) := ⟨RR.new W d, World.ownsRow_nil .., by simp; omega, (fun e => by cases e), fun _ => ⟨rfl, Nat.le_refl _⟩, .inr (.inr rfl), fun h => by simp at h, B0⟩
 obtain ⟨R, hR⟩ : ∃ R, dRt 16 d = R := ⟨_, rfl⟩
 have HR : Hid (R = (decide (0 < d.size) && moreOk (d.size + 1) d)) := by rw [← hR]; exact dRt_strs d hd
 rw [hR]
 clear hR B0
 go_enter Tryz.func129, Tryz.ntmps129
 go_wp2
 go_loopw [5] (fun v wr => ∃ x b n ls, Hid (StrS d W v x b n ls wr)) (fun _ wr => rrLen wr W.heap.size)
 case atStart => exact ⟨d, false, d.size, [], Q⟩
 case round =>
  obtain ⟨x, b, n, ls, H⟩ := hrel
  clear Q
  obtain ⟨g0, f0⟩ := H.out.rr.c0
  obtain ⟨g1, f1⟩ := H.out.rr.c1
  obtain ⟨q, c, rfl⟩ := row_form' H.out.row
  have hfew := H.out.few
  cases b with
  | true =>
   obtain rfl : false = R := by rw [HR.out, H.out.bad rfl, Bool.and_false]
   by_cases h0 : 0 < x.size
   ·obtain ⟨hn1, hn2⟩ := ne_text x h0
    have hn3 := ne_bne x h0
    go_wp2
    go_ret2
    exact ⟨⟨_, rfl⟩, H.out.bel⟩
   ·obtain rfl := ba_empty x (by omega)
    go_wp2
    go_ret2
    exact ⟨⟨_, rfl⟩, H.out.bel⟩
  | false =>
   obtain ⟨hmo, hxn⟩ := H.out.go rfl
   by_cases h0 : 0 < x.size
   ·obtain ⟨hn1, hn2⟩ := ne_text x h0
    have hn3 := ne_bne x h0
    obtain ⟨hv1, hr1e⟩ := one_atR h0
    obtain ⟨x1, ex1⟩ : ∃ x1, x1 = tkR 1 x := ⟨_, rfl⟩
    have hb0 := x[0].toNat_lt
    obtain ⟨m, em⟩ : ∃ m, m = x[0].toNat := ⟨_, rfl⟩
    have hx1s : x1.size = x.size - 1 := by rw [ex1, hr1e, ByteArray.size_extract]; omega
    have T1 : Hid (∀ w, RR w W.heap.size x false → Calls Tryz.prog 100 #[boxV W.heap.size, .int .i64 1] w fun e w' => e = .returned (.int .i64 (m : Int)) ∧ RR w' W.heap.size x1 false ∧ Kept W.heap.size w w') := fun w hw => by
     have := rNum_in w W.heap.size 1 x false (by omega) (by omega) hw
     rw [hv1, ← ex1, decide_eq_false (by omega : ¬ x.size < 1), ← em] at this
     exact this
    have T2 : Hid (∀ w, RR w W.heap.size x1 false → Calls Tryz.prog 136 #[boxV W.heap.size, .int .i64 (m : Int)] w fun e w' => e = .returned (.string (tkS m x1)) ∧ RR w' W.heap.size (tkR m x1) (decide (x1.size < m)) ∧ Kept W.heap.size w w') := fun w hw => by
     have := rTake_in w W.heap.size m x1 false (by omega) (by omega) hw
     rw [Bool.false_or] at this
     exact this
    have HLn := Hid.mk H.out.rr.len
    have HN : Hid (∀ w, RR w W.heap.size (tkR m x1) (decide (x1.size < m)) → rrLen w W.heap.size < x.size) := fun w hw => by
     rw [hw.len]
     have := tkR_le m x1
     omega
    have HB : Hid (decide (x1.size < m) = true → moreOk (d.size + 1) d = false) := fun hb => by
     rw [hmo]
     refine more_no n x h0 ?_
     have := of_decide_eq_true hb
     omega
    obtain ⟨n', hn'⟩ : ∃ n', n = n' + 1 := ⟨n - 1, by omega⟩
    have HG : Hid (decide (x1.size < m) = false → moreOk (d.size + 1) d = moreOk (n' + 1) (tkR m x1) ∧ (tkR m x1).size ≤ n') := fun hb => by
     have hb' := of_decide_eq_false hb
     have e1 : tkR m x1 = x.extract (1 + x[0].toNat) x.size := by
      rw [tkR, if_pos (by omega), ex1, hr1e]
      apply ba_ext
      simp only [ByteArray.data_extract, Array.toList_extract, List.extract_eq_take_drop, ByteArray.size_extract]
      rw [List.drop_take, List.drop_drop]
      have hxl : x.data.toList.length = x.size := size_list x
      rw [List.take_of_length_le (by (try simp) <;> omega), List.take_of_length_le (by (try simp) <;> omega), List.take_of_length_le (by (try simp) <;> omega), em]
     constructor
     ·rw [hmo, more_go n x h0 (by omega), hn', e1]
     ·have := tkR_le m x1
      omega
    have HZ : Hid ((tkR m x1).size + 1 ≤ x.size ∧ 0 < d.size) := ⟨by have := tkR_le m x1; omega, by
     rcases H.out.ne with h | h | h
     ·exact H.out.nz h
     ·cases h
     ·omega⟩
    have hWl := H.out.bel.size
    have hWt := H.out.rr.lt
    have HRow := Hid.mk H.out.row
    have HRr := Hid.mk H.out.rr
    have HBl := Hid.mk H.out.bel
    clear H hv1 hr1e ex1 hmo hxn em hn' hb0 hx1s HR
    generalize tkS m x1 = t at T2
    generalize tkR m x1 = x2 at T2 HN HG HZ
    generalize decide (x1.size < m) = b2 at T2 HN HG HB
    go_wp2_with fail
    refine (T1.out _ HRr.out).mono ?_
    rintro e w1 ⟨rfl, hr1, hk1⟩
    go_wp2_with fail
    refine (T2.out _ hr1).mono ?_
    rintro e w2 ⟨rfl, hr2, hk2⟩
    have HR2 := Hid.mk hr2
    have HK2 := Hid.mk (hk1.trans hk2)
    have hrow2 := row_kept' HRow.out HK2.out (Nat.lt_succ_self _)
    have hsz2 := HK2.out.size
    clear hr1 hk1 hk2 hr2 T1 T2 g0 f0 g1 f1
    go_wp2_with (at_builtin; refine wpList_append_own _ rfl _ _ 42 rfl (W.heap.size + 1) 9 i0 (.string ⟨#[]⟩) 1 16 Tryz.underlying42 hi hz0 hz1 hz2 rfl (by decide) _ _ _ rfl (hrow2.alloc _) ⟨w2.heap.size, 0, none⟩ 1 1 [.string t] rfl rfl (cell_one_new _ _ _) (by simp [Value.oneCell']) (by unfold maxLen; omega) (by omega) (by simp; omega) ?_; intro v1 w3 hown1 hgrow1 _)
    have hb3 : Below (W.heap.size + 1) w2 w3 := ((Below.refl _ _).alloc (by omega) _).grown hgrow1 (by simp; omega) (rowBase hrow2)
    have hr3 : RR w3 W.heap.size x2 b2 := (hb3.block _ (Nat.lt_succ_self _)).trans HR2.out
    have HHR3 := Hid.mk hr3
    have HHB3 := Hid.mk hb3
    clear hr3 hb3 HR2
    go_roundw
    case rel =>
     refine ⟨x2, b2, n', ls ++ [t.data.toList], HHR3.out, by rw [List.length_append, strsV_snoc]; exact hown1, ?_, HB.out, HG.out, .inl (by simp), fun _ => HZ.out.2, HBl.out.trans ((HK2.out.below (Nat.le_refl _) hWl).trans (HHB3.out.mono (Nat.le_succ _)))⟩
     have := HZ.out.1
     simp only [List.length_append, List.length_singleton]
     omega
    case measure => rw [HLn.out]; exact HN.out _ HHR3.out
   ·obtain rfl := ba_empty x (by omega)
    have hRl : R = decide (0 < ls.length) := by
     rw [HR.out, hmo, more_end n _ rfl, Bool.and_true]
     refine decide_eq_decide.2 ⟨fun h => ?_, H.out.nz⟩
     rcases H.out.ne with h' | h' | h'
     ·omega
     ·cases h'
     ·have : (⟨#[]⟩ : ByteArray).size = 0 := rfl
      omega
    subst hRl
    clear HR hmo
    go_wp2
    go_ret2
    exact ⟨⟨_, rfl⟩, H.out.bel⟩
end Go.Proofs.YtdlcldjlfhmlgaaGreatDoor
/- The document's Right of data (guidepostref02). -/
namespace Go.Proofs.YtdlcldjlfhmlgaaGreatDoor
open Go.RowKit
set_option maxRecDepth 100000 in
set_option maxHeartbeats 4000000 in
theorem rdRight_in (k : Int) (d : ByteArray) (hd : d.size ≤ maxLen) (W : World) :
  Calls Tryz.prog 97 #[.int .i64 k, .string d] W fun e w' => e = .returned (.bool (dRt k d)) ∧ Below W.heap.size W w' := by
 by_cases hk0 : k < 0
 ·rw [dRt_no (by omega)]
  have d0 : decide (k < 0) = true := decide_eq_true hk0
  go_enter Tryz.func97, Tryz.ntmps97
  go_wp2
  go_ret
  exact ⟨rfl, Below.refl _ _⟩
 by_cases hk1 : 65535 < k
 ·rw [dRt_no (by omega)]
  have d0 : decide (k < 0) = false := decide_eq_false hk0
  have d1 : decide (65535 < k) = true := decide_eq_true hk1
  go_enter Tryz.func97, Tryz.ntmps97
  go_wp2
  go_ret
  exact ⟨rfl, Below.refl _ _⟩
 by_cases hs : 2000 < d.size
 ·rw [dRt_no (by omega)]
  have d0 : decide (k < 0) = false := decide_eq_false hk0
  have d1 : decide (65535 < k) = false := decide_eq_false hk1
  have d2 : decide (2000 < (d.size : Int)) = true := decide_eq_true (by omega)
  go_enter Tryz.func97, Tryz.ntmps97
  go_wp2
  go_ret
  exact ⟨rfl, Below.refl _ _⟩
 have hsz : d.size ≤ 2000 := by omega
 have d0 : decide (k < 0) = false := decide_eq_false hk0
 have d1 : decide (65535 < k) = false := decide_eq_false hk1
 have d2 : decide (2000 < (d.size : Int)) = false := decide_eq_false (by omega)
 by_cases c1 : k = 1
 ·subst c1
  rw [show dRt 1 d = ((d.size : Int) == 4) from bool_of_iff ((dRt_one (p := .grp 4 1 10 46) rfl (by omega) hsz).trans (by rw [beq_iff_eq]; show d.size = 4 * 1 ↔ _; omega))]
  clear d0 d1
  go_enter Tryz.func97, Tryz.ntmps97
  go_wp2
  go_ret
  exact ⟨rfl, Below.refl _ _⟩
 by_cases c28 : k = 28
 ·subst c28
  rw [show dRt 28 d = ((d.size : Int) == 16) from bool_of_iff ((dRt_one (p := .grp 8 2 16 58) rfl (by omega) hsz).trans (by rw [beq_iff_eq]; show d.size = 8 * 2 ↔ _; omega))]
  clear d0 d1
  go_enter Tryz.func97, Tryz.ntmps97
  go_wp2
  go_ret
  exact ⟨rfl, Below.refl _ _⟩
 by_cases c2 : k = 2 ∨ k = 5 ∨ k = 39
 ·have e0 : dRt k d = isN d := bool_of_iff ((dRt_one (p := .name) (by rcases c2 with rfl | rfl | rfl <;> rfl) (by omega) hsz).trans isN_iff.symm)
  rw [e0]
  have HN := Hid.mk (rright_in d (by unfold maxLen; omega))
  clear d0 d1 e0
  rcases c2 with rfl | rfl | rfl
  all_goals
   go_enter Tryz.func97, Tryz.ntmps97
   go_wp2_with fail
   refine (HN.out _).mono ?_
   rintro e w1 ⟨rfl, hb1⟩
   go_wp2
   go_ret
   exact ⟨rfl, hb1⟩
 by_cases c6 : k = 6
 ·subst c6
  have HN := Hid.mk (refSoa_in d (by omega))
  obtain ⟨R, hR⟩ : ∃ R, dRt 6 d = R := ⟨_, rfl⟩
  rw [hR]
  have HR := Hid.mk hR
  clear d0 d1 hR
  go_enter Tryz.func97, Tryz.ntmps97
  go_wp2_with fail
  refine (HN.out _).mono ?_
  rintro e w1 ⟨hp, hb1⟩
  rcases hp with ⟨t0, t1, t2, t3, t4, t5, t6, hs1, rfl⟩ | ⟨hs1, rfl⟩
  all_goals
   have hR2 := HR.out
   rw [dRt, hs1] at hR2
   subst hR2
   clear hs1 HR
   go_wp2
   go_ret
   exact ⟨rfl, hb1⟩
 by_cases c15 : k = 15
 ·subst c15
  have HN := Hid.mk (rMx_in d hsz)
  generalize dRt 15 d = R at HN ⊢
  clear d0 d1
  go_enter Tryz.func97, Tryz.ntmps97
  go_wp2_with fail
  refine (HN.out _).mono ?_
  rintro e w1 ⟨⟨n, t, rfl⟩, hb1⟩
  go_wp2
  go_ret
  exact ⟨rfl, hb1⟩
 by_cases c16 : k = 16
 ·subst c16
  have HN := Hid.mk (rStrings_in d hsz)
  generalize dRt 16 d = R at HN ⊢
  clear d0 d1
  go_enter Tryz.func97, Tryz.ntmps97
  go_wp2_with fail
  refine (HN.out _).mono ?_
  rintro e w1 ⟨⟨v, rfl⟩, hb1⟩
  go_wp2
  go_ret
  exact ⟨rfl, hb1⟩
 by_cases c43 : k = 43
 ·subst c43
  have HN := Hid.mk (refDs_in d (by omega))
  obtain ⟨R, hR⟩ : ∃ R, dRt 43 d = R := ⟨_, rfl⟩
  rw [hR]
  have HR := Hid.mk hR
  clear d0 d1 hR
  go_enter Tryz.func97, Tryz.ntmps97
  go_wp2_with fail
  refine (HN.out _).mono ?_
  rintro e w1 ⟨hp, hb1⟩
  rcases hp with ⟨t0, t1, t2, t3, hs1, rfl⟩ | ⟨hs1, rfl⟩
  all_goals
   have hR2 := HR.out
   rw [dRt, hs1] at hR2
   subst hR2
   clear hs1 HR
   go_wp2
   go_ret
   exact ⟨rfl, hb1⟩
 by_cases c46 : k = 46
 ·subst c46
  have HN := Hid.mk (refSig_in d (by omega))
  obtain ⟨R, hR⟩ : ∃ R, dRt 46 d = R := ⟨_, rfl⟩
  rw [hR]
  have HR := Hid.mk hR
  clear d0 d1 hR
  go_enter Tryz.func97, Tryz.ntmps97
  go_wp2_with fail
  refine (HN.out _).mono ?_
  rintro e w1 ⟨hp, hb1⟩
  rcases hp with ⟨t0, t1, t2, t3, t4, t5, t6, t7, t8, hs1, rfl⟩ | ⟨hs1, rfl⟩
  all_goals
   have hR2 := HR.out
   rw [dRt, hs1] at hR2
   subst hR2
   clear hs1 HR
   go_wp2
   go_ret
   exact ⟨rfl, hb1⟩
 by_cases c47 : k = 47
 ·subst c47
  have HN := Hid.mk (refNsec_in d (by omega))
  obtain ⟨R, hR⟩ : ∃ R, dRt 47 d = R := ⟨_, rfl⟩
  rw [hR]
  have HR := Hid.mk hR
  clear d0 d1 hR
  go_enter Tryz.func97, Tryz.ntmps97
  go_wp2_with fail
  refine (HN.out _).mono ?_
  rintro e w1 ⟨hp, hb1⟩
  rcases hp with ⟨t0, t1, v, l, hs1, _, rfl, _⟩ | ⟨hs1, rfl⟩
  all_goals
   have hR2 := HR.out
   rw [dRt, hs1] at hR2
   subst hR2
   clear hs1 HR
   go_wp2
   go_ret
   exact ⟨rfl, hb1⟩
 by_cases c48 : k = 48
 ·subst c48
  have HN := Hid.mk (refKey_in d (by omega))
  obtain ⟨R, hR⟩ : ∃ R, dRt 48 d = R := ⟨_, rfl⟩
  rw [hR]
  have HR := Hid.mk hR
  clear d0 d1 hR
  go_enter Tryz.func97, Tryz.ntmps97
  go_wp2_with fail
  refine (HN.out _).mono ?_
  rintro e w1 ⟨hp, hb1⟩
  rcases hp with ⟨t0, t1, t2, t3, hs1, rfl⟩ | ⟨hs1, rfl⟩
  all_goals
   have hR2 := HR.out
   rw [dRt, hs1] at hR2
   subst hR2
   clear hs1 HR
   go_wp2
   go_ret
   exact ⟨rfl, hb1⟩
 by_cases c50 : k = 50
 ·subst c50
  have HN := Hid.mk (refNsec3_in d (by omega))
  obtain ⟨R, hR⟩ : ∃ R, dRt 50 d = R := ⟨_, rfl⟩
  rw [hR]
  have HR := Hid.mk hR
  clear d0 d1 hR
  go_enter Tryz.func97, Tryz.ntmps97
  go_wp2_with fail
  refine (HN.out _).mono ?_
  rintro e w1 ⟨hp, hb1⟩
  rcases hp with ⟨t0, t1, t2, sa, nx, t5, v, l, na, nn, hs1, _, rfl, _⟩ | ⟨hs1, rfl⟩
  all_goals
   have hR2 := HR.out
   rw [dRt, hs1] at hR2
   subst hR2
   clear hs1 HR
   go_wp2
   go_ret
   exact ⟨rfl, hb1⟩
 have hany : formOf k = [.any] := by
  unfold formOf
  rw [if_neg c1, if_neg c28, if_neg c2, if_neg c6, if_neg c15, if_neg c16, if_neg (by omega), if_neg c46, if_neg c47, if_neg c50]
 have e0 : dRt k d = true := (dRt_one hany (by omega) hsz).2 trivial
 rw [e0]
 have b1 : (k == 1) = false := by rw [beq_eq_false_iff_ne]; exact c1
 have b28 : (k == 28) = false := by rw [beq_eq_false_iff_ne]; exact c28
 have b2 : (k == 2) = false := by rw [beq_eq_false_iff_ne]; omega
 have b5 : (k == 5) = false := by rw [beq_eq_false_iff_ne]; omega
 have b39 : (k == 39) = false := by rw [beq_eq_false_iff_ne]; omega
 have b6 : (k == 6) = false := by rw [beq_eq_false_iff_ne]; exact c6
 have b15 : (k == 15) = false := by rw [beq_eq_false_iff_ne]; exact c15
 have b16 : (k == 16) = false := by rw [beq_eq_false_iff_ne]; exact c16
 have b43 : (k == 43) = false := by rw [beq_eq_false_iff_ne]; exact c43
 have b46 : (k == 46) = false := by rw [beq_eq_false_iff_ne]; exact c46
 have b47 : (k == 47) = false := by rw [beq_eq_false_iff_ne]; exact c47
 have b48 : (k == 48) = false := by rw [beq_eq_false_iff_ne]; exact c48
 have b50 : (k == 50) = false := by rw [beq_eq_false_iff_ne]; exact c50
 clear e0 hany c1 c28 c2 c6 c15 c16 c43 c46 c47 c48 c50
 go_enter Tryz.func97, Tryz.ntmps97
 go_wp2
 go_ret
 exact ⟨rfl, Below.refl _ _⟩
end Go.Proofs.YtdlcldjlfhmlgaaGreatDoor
/- The document's Lower of data (guidepostref02), of types that are no signatures. -/
namespace Go.Proofs.YtdlcldjlfhmlgaaGreatDoor
open Go.RowKit
theorem rfits4_in (n : Nat) (hn : n < 4294967296) (w : World) : Calls Tryz.prog 150 #[.int .i64 (n : Int), .int .i64 4] w fun e w' => e = .returned (.bool true) ∧ w' = w := by
 have hsh : (n : Int) / 4294967296 = 0 := by omega
 go_enter Tryz.func150, Tryz.ntmps150
 go_wp2
 go_ret
 exact ⟨rfl, rfl⟩
set_option maxRecDepth 100000 in
set_option maxHeartbeats 2000000 in
theorem rnum4_in (n : Nat) (hn : n < 4294967296) (w1 : World) :
  Calls Tryz.prog 151 #[.int .i64 (n : Int), .int .i64 4] w1 fun e w' => e = .returned (.string ⟨(bytesB n 4).toArray⟩) ∧ Below w1.heap.size w1 w' := by
 obtain ⟨i0, hi, hz0, hz1, hz2⟩ := info_parts info5
 have HBB : Hid ((⟨(bytesB n 4).toArray⟩ : ByteArray) = ⟨([UInt8.ofNat (n / 16777216), UInt8.ofNat (n / 65536), UInt8.ofNat (n / 256), UInt8.ofNat (n)] : List UInt8).toArray⟩) := by
  rw [Hid]
  simp [bytesB, List.range_succ]
 obtain ⟨M, hM⟩ : ∃ M, M = madeCells (Value.int .u8 0).cells (((4 : Nat) : Int).toNat * i0.size) := ⟨_, rfl⟩
 have hMs : M.size = 4 := by rw [hM, size_madeCells, hz1]; simp
 have hmk : ∀ W : World, (Instr.makeSlice 143 (.int .i64 4) (.int .i64 4)).run Tryz.prog W = .ok (.slice (some ⟨W.heap.size, 0, none⟩) 4 4) (W.alloc (.cells M 5)) := fun W => by
  have h := run_make (P := Tryz.prog) W 143 5 i0 (.int .u8 0) Tryz.underlying143 hi hz0 .i64 .i64 ((4 : Nat) : Int) ((4 : Nat) : Int) (by omega) (by omega) (by rw [hz2]; omega) (by omega)
  rw [← hM] at h
  simpa using h
 obtain ⟨v0, v1, v2, v3, hv0⟩ : ∃ v0 v1 v2 v3, M = #[v0, v1, v2, v3] := by
  match M, hMs with
  | ⟨[v0, v1, v2, v3]⟩, _ => exact ⟨v0, v1, v2, v3, rfl⟩
 subst hv0
 clear hM hMs
 go_enter Tryz.func151, Tryz.ntmps151
 go_wp2
 clear hmk
 go_loopw [6] (fun i wr => ∃ (j : Nat) (v0 v1 v2 v3 : Value), j ≤ 4 ∧ i = .int .i64 j ∧ (4 ≤ j → v0 = .int .u8 (((UInt8.ofNat (n / 16777216)).toNat : Nat) : Int)) ∧ (3 ≤ j → v1 = .int .u8 (((UInt8.ofNat (n / 65536)).toNat : Nat) : Int)) ∧ (2 ≤ j → v2 = .int .u8 (((UInt8.ofNat (n / 256)).toNat : Nat) : Int)) ∧ (1 ≤ j → v3 = .int .u8 (((UInt8.ofNat (n)).toNat : Nat) : Int)) ∧ wr.heap[w1.heap.size]? = some (.cells #[v0, v1, v2, v3] 5 (0, 0)) ∧ Below w1.heap.size w1 wr) (fun i _ => 4 - (intOf i).toNat)
 case atStart => exact ⟨0, v0, v1, v2, v3, by omega, rfl, fun h => absurd h (by omega), fun h => absurd h (by omega), fun h => absurd h (by omega), fun h => absurd h (by omega), heap_new _ _, (Below.refl _ _).alloc (Nat.le_refl _) _⟩
 case round =>
  obtain ⟨j, v0, v1, v2, v3, hj, rfl, hv0, hv1, hv2, hv3, hh, hbl⟩ := hrel
  rcases (show j = 0 ∨ j = 1 ∨ j = 2 ∨ j = 3 ∨ j = 4 by omega) with rfl | rfl | rfl | rfl | rfl
  ·obtain ⟨hc, hf⟩ := cells_at (j := 3) hh rfl
   have hbs := Hid.mk (cells_put (j := 3) hh (.int .u8 (((UInt8.ofNat (n)).toNat : Nat) : Int)))
   have hwr := wrapu8 ((n : Int)) (n) (by omega)
   go_wp2
   exact ⟨⟨1, v0, v1, v2, (.int .u8 (((UInt8.ofNat (n)).toNat : Nat) : Int)), by omega, rfl, fun h => absurd h (by omega), fun h => absurd h (by omega), fun h => absurd h (by omega), fun _ => rfl, hbs.out, hbl.setCell (p := ⟨w1.heap.size, 3, none⟩) (Nat.le_refl _) _⟩, by simp [intOf]⟩
  ·obtain ⟨hc, hf⟩ := cells_at (j := 2) hh rfl
   have hbs := Hid.mk (cells_put (j := 2) hh (.int .u8 (((UInt8.ofNat (n / 256)).toNat : Nat) : Int)))
   have hwr := wrapu8 ((n : Int) / 256) (n / 256) (by omega)
   go_wp2
   exact ⟨⟨2, v0, v1, (.int .u8 (((UInt8.ofNat (n / 256)).toNat : Nat) : Int)), v3, by omega, rfl, fun h => absurd h (by omega), fun h => absurd h (by omega), fun _ => rfl, fun _ => hv3 (by omega), hbs.out, hbl.setCell (p := ⟨w1.heap.size, 2, none⟩) (Nat.le_refl _) _⟩, by simp [intOf]⟩
  ·obtain ⟨hc, hf⟩ := cells_at (j := 1) hh rfl
   have hbs := Hid.mk (cells_put (j := 1) hh (.int .u8 (((UInt8.ofNat (n / 65536)).toNat : Nat) : Int)))
   have hwr := wrapu8 ((n : Int) / 65536) (n / 65536) (by omega)
   go_wp2
   exact ⟨⟨3, v0, (.int .u8 (((UInt8.ofNat (n / 65536)).toNat : Nat) : Int)), v2, v3, by omega, rfl, fun h => absurd h (by omega), fun _ => rfl, fun _ => hv2 (by omega), fun _ => hv3 (by omega), hbs.out, hbl.setCell (p := ⟨w1.heap.size, 1, none⟩) (Nat.le_refl _) _⟩, by simp [intOf]⟩
  ·obtain ⟨hc, hf⟩ := cells_at (j := 0) hh rfl
   have hbs := Hid.mk (cells_put (j := 0) hh (.int .u8 (((UInt8.ofNat (n / 16777216)).toNat : Nat) : Int)))
   have hwr := wrapu8 ((n : Int) / 16777216) (n / 16777216) (by omega)
   go_wp2
   exact ⟨⟨4, (.int .u8 (((UInt8.ofNat (n / 16777216)).toNat : Nat) : Int)), v1, v2, v3, by omega, rfl, fun _ => rfl, fun _ => hv1 (by omega), fun _ => hv2 (by omega), fun _ => hv3 (by omega), hbs.out, hbl.setCell (p := ⟨w1.heap.size, 0, none⟩) (Nat.le_refl _) _⟩, by simp [intOf]⟩
  ·obtain rfl := hv0 (by omega)
   obtain rfl := hv1 (by omega)
   obtain rfl := hv2 (by omega)
   obtain rfl := hv3 (by omega)
   have hcv := run_convert_bytes_back (P := Tryz.prog) wr 143 9 5 ⟨w1.heap.size, 0, none⟩ 4 [UInt8.ofNat (n / 16777216), UInt8.ofNat (n / 65536), UInt8.ofNat (n / 256), UInt8.ofNat (n)] Tryz.underlying143 Tryz.underlying5 Tryz.underlying9 (fun j hj => by
    simp only [List.length_cons, List.length_nil] at hj
    rw [add_at]
    rcases (show j = 0 ∨ j = 1 ∨ j = 2 ∨ j = 3 by omega) with rfl | rfl | rfl | rfl
    all_goals exact (cells_at hh rfl).1)
   simp only [List.length_cons, List.length_nil, Nat.zero_add, Nat.reduceAdd] at hcv
   clear hv0 hv1 hv2 hv3
   go_wp2
   go_ret
   exact ⟨by rw [HBB.out]; rfl, hbl⟩
def Kd (V u : World) : Prop := Below V.heap.size V u
theorem Kd.refl (V : World) : Kd V V := Below.refl _ _
theorem Kd.drew {V u : World} (h : Kd V u) : Kd V u.drew := Below.drew h
theorem Kd.blk {V u u' : World} (h : Kd V u) (hb : Below u.heap.size u u') : Kd V u' := Below.trans h (Below.mono hb (Below.size h))
theorem Kd.bel {W V u : World} (h : Kd V u) (hb : Below W.heap.size W V) : Below W.heap.size W u := Below.trans hb (Below.mono h (Below.size hb))
end Go.Proofs.YtdlcldjlfhmlgaaGreatDoor
