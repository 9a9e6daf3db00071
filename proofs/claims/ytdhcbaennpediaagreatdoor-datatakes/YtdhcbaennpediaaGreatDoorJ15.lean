/- Texts of this proof, joined: DRefNsec3, DDs. -/
import Derived.Test.YtdhcbaennpediaaGreatDoorJ14
import Derived.Deep.RegionHeld3
import Derived.Test.YtdhcbaennpediaaGreatDoorJ13
import Derived.Test.YtdhcbaennpediaaGreatDoorJ5
/- NSEC3, as the document's own function takes it apart. -/
namespace Go.Proofs.YtdhcbaennpediaaGreatDoor
set_option linter.unusedVariables false
open Go.RowKit

theorem salt_pair (r : ByteArray) (b : Bool) (hz : r.size ≤ 140737488355328) : ∃ (nn : Nat) (x1 sa x2 : ByteArray) (b1 b2 : Bool), nn ≤ 255 ∧ x1.size ≤ 140737488355328 ∧ x2.size ≤ 140737488355328 ∧
    Hid (∀ W d, RR W d r b → Calls Tryz.prog 39 #[boxV d, .int .i64 1] W fun e w' => e = .returned (.int .i64 ((nn : Nat) : Int)) ∧ RR w' d x1 b1 ∧ Kept d W w') ∧
    Hid (∀ W d, RR W d x1 b1 → Calls Tryz.prog 43 #[boxV d, .int .i64 nn] W fun e w' => e = .returned (.string sa) ∧ RR w' d x2 b2 ∧ Kept d W w') ∧
    Hid (Stp .salt r b ⟨(UInt8.ofNat nn :: sa.data.toList).toArray⟩ x2 b2) ∧ Hid (Stp .hash r b ⟨(UInt8.ofNat nn :: sa.data.toList).toArray⟩ x2 (b2 || decide (nn = 0))) := by
  have h1 := tkR_le 1 r
  have h2 := tkR_le (numB (tkS 1 r).data.toList) (tkR 1 r)
  have hn : numB (tkS 1 r).data.toList ≤ 255 := by
    have := numB_lt (tkS 1 r).data.toList
    have hl : (tkS 1 r).data.toList.length ≤ 1 := by rw [size_list]; exact (tkS_le 1 r).1
    have h2 : 256 ^ (tkS 1 r).data.toList.length ≤ 256 ^ 1 := Nat.pow_le_pow_right (by omega) hl
    omega
  exact ⟨_, _, _, _, _, _, hn, by omega, by omega, fun W d h => rNum_in W d 1 r b hz (by omega) h, fun W d h => rTake_in W d _ _ _ (by omega) (by omega) h, stp_salt r b, stp_hash (stp_salt r b)⟩

def RefNsec3Post (d : ByteArray) (e : Ending) (w' : World) : Prop := (∃ t0 t1 t2 sa nx t5 v l na nn, splitR 50 d = some [t0, t1, t2, ⟨(UInt8.ofNat na :: sa.data.toList).toArray⟩, ⟨(UInt8.ofNat nn :: nx.data.toList).toArray⟩, t5] ∧ typesR t5 = some l ∧ e = .returned (.tuple #[.agg #[.int .i64 ((numB t0.data.toList : Nat) : Int), .int .i64 ((numB t1.data.toList : Nat) : Int), .int .i64 ((numB t2.data.toList : Nat) : Int), .string sa, .string nx, v], .bool true]) ∧ IntsAt w' v (l.map fun n => ((n : Nat) : Int))) ∨ (splitR 50 d = none ∧ e = .returned (.tuple #[.agg #[.int .i64 0, .int .i64 0, .int .i64 0, .string ⟨#[]⟩, .string ⟨#[]⟩, .slice none 0 0], .bool false]))

set_option maxRecDepth 100000 in
set_option maxHeartbeats 8000000 in
theorem refNsec3_in (d : ByteArray) (hd : d.size ≤ 140737488355328) (W : World) :
    Calls Tryz.prog 19 #[.string d] W fun e w' => RefNsec3Post d e w' ∧ Below W.heap.size W w' := by
  have hmo : Tryz.prog.follows Departure.mixedOrders = true := by kernel_rfl
  have Q := Hid.mk (S0.first W 56 #[.int .i64 0, .int .i64 0, .int .i64 0, .string ⟨#[]⟩, .string ⟨#[]⟩, .slice none 0 0] d)
  obtain ⟨r0, hr0⟩ : ∃ r0, r0 = d := ⟨_, rfl⟩
  have hz0 : r0.size ≤ 140737488355328 := by rw [hr0]; exact hd
  rw [show S0 W ((W.alloc (.cells #[.int .i64 0, .int .i64 0, .int .i64 0, .string ⟨#[]⟩, .string ⟨#[]⟩, .slice none 0 0] 56)).alloc (.cells #[.string d, .bool false] 90)) W.heap.size (W.heap.size + 1) d false 56 #[.int .i64 0, .int .i64 0, .int .i64 0, .string ⟨#[]⟩, .string ⟨#[]⟩, .slice none 0 0] = S0 W ((W.alloc (.cells #[.int .i64 0, .int .i64 0, .int .i64 0, .string ⟨#[]⟩, .string ⟨#[]⟩, .slice none 0 0] 56)).alloc (.cells #[.string d, .bool false] 90)) W.heap.size (W.heap.size + 1) r0 false 56 #[.int .i64 0, .int .i64 0, .int .i64 0, .string ⟨#[]⟩, .string ⟨#[]⟩, .slice none 0 0] by rw [hr0]] at Q
  have HR0 := Hid.mk hr0
  clear hr0
  go_enter Tryz.func19, Tryz.ntmps19
  go_wp2_with fail
  refine (rNum_post (.num 1) 1 (fun _ => rfl) (by omega) _ (W.heap.size + 1) r0 false hz0 Q.out.rr).mono ?_
  rintro e w1 ⟨t0, r1, b1, rfl, hr, hk, hs, hz⟩
  have hz1 : r1.size ≤ 140737488355328 := by omega
  replace Q := Hid.mk (Q.out.call hr hk)
  have P0 := Hid.mk hs
  clear hr hk hs hz hz0
  have hW1 := Q.out.bel.size
  replace Q := Hid.mk (Q.out.new #[.int .i64 ((numB t0.data.toList : Nat) : Int), .int .i64 0, .int .i64 0, .string ⟨#[]⟩, .string ⟨#[]⟩, .slice none 0 0])
  go_wp2_with fail
  refine (rNum_post (.num 1) 1 (fun _ => rfl) (by omega) _ (W.heap.size + 1) r1 b1 hz1 Q.out.s.rr).mono ?_
  rintro e w2 ⟨t1, r2, b2, rfl, hr, hk, hs, hz⟩
  have hz2 : r2.size ≤ 140737488355328 := by omega
  replace Q := Hid.mk (Q.out.call hr hk)
  have P1 := Hid.mk hs
  clear hr hk hs hz hz1
  obtain ⟨g1, f1⟩ := cells_at (v := .int .i64 0) (j := 1) Q.out.x rfl
  replace Q : Hid (S1 W (w2.setCell ⟨w1.heap.size, 1, none⟩ (.int .i64 ((numB t1.data.toList : Nat) : Int))) W.heap.size (W.heap.size + 1) w1.heap.size r2 b2 56 #[.int .i64 0, .int .i64 0, .int .i64 0, .string ⟨#[]⟩, .string ⟨#[]⟩, .slice none 0 0] #[.int .i64 ((numB t0.data.toList : Nat) : Int), .int .i64 ((numB t1.data.toList : Nat) : Int), .int .i64 0, .string ⟨#[]⟩, .string ⟨#[]⟩, .slice none 0 0]) := Q.out.put 1 (.int .i64 ((numB t1.data.toList : Nat) : Int))
  go_wp2_with fail
  refine (rNum_post (.num 2) 2 (fun _ => rfl) (by omega) _ (W.heap.size + 1) r2 b2 hz2 Q.out.s.rr).mono ?_
  rintro e w3 ⟨t2, r3, b3, rfl, hr, hk, hs, hz⟩
  have hz3 : r3.size ≤ 140737488355328 := by omega
  replace Q := Hid.mk (Q.out.call hr hk)
  have P2 := Hid.mk hs
  clear hr hk hs hz hz2
  obtain ⟨g2, f2⟩ := cells_at (v := .int .i64 0) (j := 2) Q.out.x rfl
  replace Q : Hid (S1 W (w3.setCell ⟨w1.heap.size, 2, none⟩ (.int .i64 ((numB t2.data.toList : Nat) : Int))) W.heap.size (W.heap.size + 1) w1.heap.size r3 b3 56 #[.int .i64 0, .int .i64 0, .int .i64 0, .string ⟨#[]⟩, .string ⟨#[]⟩, .slice none 0 0] #[.int .i64 ((numB t0.data.toList : Nat) : Int), .int .i64 ((numB t1.data.toList : Nat) : Int), .int .i64 ((numB t2.data.toList : Nat) : Int), .string ⟨#[]⟩, .string ⟨#[]⟩, .slice none 0 0]) := Q.out.put 2 (.int .i64 ((numB t2.data.toList : Nat) : Int))
  go_wp2_with fail
  obtain ⟨na, ra, sa, r4, ba, b4, hna, hza, hz4, TA1, TA2, P3, _⟩ := salt_pair r3 b3 hz3
  refine (TA1.out _ _ Q.out.s.rr).mono ?_
  rintro e w4 ⟨rfl, hr, hk⟩
  replace Q := Hid.mk (Q.out.call hr hk)
  clear hr hk
  go_wp2_with fail
  refine (TA2.out _ _ Q.out.s.rr).mono ?_
  rintro e w5 ⟨rfl, hr, hk⟩
  replace Q := Hid.mk (Q.out.call hr hk)
  clear hr hk TA1 TA2
  obtain ⟨g3, f3⟩ := cells_at (v := .string ⟨#[]⟩) (j := 3) Q.out.x rfl
  replace Q : Hid (S1 W (w5.setCell ⟨w1.heap.size, 3, none⟩ (.string sa)) W.heap.size (W.heap.size + 1) w1.heap.size r4 b4 56 #[.int .i64 0, .int .i64 0, .int .i64 0, .string ⟨#[]⟩, .string ⟨#[]⟩, .slice none 0 0] #[.int .i64 ((numB t0.data.toList : Nat) : Int), .int .i64 ((numB t1.data.toList : Nat) : Int), .int .i64 ((numB t2.data.toList : Nat) : Int), .string sa, .string ⟨#[]⟩, .slice none 0 0]) := Q.out.put 3 (.string sa)
  go_wp2_with fail
  obtain ⟨nn, rn, nx, r5, bn, b5, hnn, hzn, hz5, TA1, TA2, _, P4⟩ := salt_pair r4 b4 hz4
  refine (TA1.out _ _ Q.out.s.rr).mono ?_
  rintro e w6 ⟨rfl, hr, hk⟩
  replace Q := Hid.mk (Q.out.call hr hk)
  clear hr hk
  go_wp2_with fail
  refine (TA2.out _ _ Q.out.s.rr).mono ?_
  rintro e w7 ⟨rfl, hr, hk⟩
  replace Q := Hid.mk (Q.out.call hr hk)
  clear hr hk TA1 TA2
  obtain ⟨g4, f4⟩ := cells_at (v := .string ⟨#[]⟩) (j := 4) Q.out.x rfl
  replace Q : Hid (S1 W (w7.setCell ⟨w1.heap.size, 4, none⟩ (.string nx)) W.heap.size (W.heap.size + 1) w1.heap.size r5 b5 56 #[.int .i64 0, .int .i64 0, .int .i64 0, .string ⟨#[]⟩, .string ⟨#[]⟩, .slice none 0 0] #[.int .i64 ((numB t0.data.toList : Nat) : Int), .int .i64 ((numB t1.data.toList : Nat) : Int), .int .i64 ((numB t2.data.toList : Nat) : Int), .string sa, .string nx, .slice none 0 0]) := Q.out.put 4 (.string nx)
  have hw7 : w1.heap.size + 1 ≤ (w7.setCell ⟨w1.heap.size, 4, none⟩ (.string nx)).heap.size := by have := box_lt Q.out.x; omega
  go_wp2_with fail
  refine (rTypes_in _ (W.heap.size + 1) r5 b5 hz5 Q.out.s.rr).mono ?_
  rintro e w8 ⟨v, r8, b8, l, rfl, hr, hk, hrow, hsT, htl⟩
  obtain ⟨q, c, hv⟩ := row_as hrow
  subst hv
  replace Q := Hid.mk (Q.out.call hr hk)
  have PT := Hid.mk hsT
  have HTL := Hid.mk htl
  clear hr hk hsT htl
  obtain ⟨gT, fT⟩ := cells_at (v := .slice none 0 0) (j := 5) Q.out.x rfl
  replace Q : Hid (S1 W (w8.setCell ⟨w1.heap.size, 5, none⟩ (.slice q l.length c)) W.heap.size (W.heap.size + 1) w1.heap.size r8 b8 56 #[.int .i64 0, .int .i64 0, .int .i64 0, .string ⟨#[]⟩, .string ⟨#[]⟩, .slice none 0 0] #[.int .i64 ((numB t0.data.toList : Nat) : Int), .int .i64 ((numB t1.data.toList : Nat) : Int), .int .i64 ((numB t2.data.toList : Nat) : Int), .string sa, .string nx, .slice q l.length c]) := Q.out.put 5 (.slice q l.length c)
  have hWlt : W.heap.size < w1.heap.size + 1 := by omega
  have rwx := ownsRow_setCell_below (row_down hrow hw7) (a := ⟨w1.heap.size, 5, none⟩) (Nat.lt_succ_self _) (.slice q l.length c)
  have RWX := Hid.mk rwx
  clear rwx hrow hw7
  have HC : Hid (Chn (formOf 50) r0 false [t0, t1, t2, ⟨(UInt8.ofNat na :: sa.data.toList).toArray⟩, ⟨(UInt8.ofNat nn :: nx.data.toList).toArray⟩, r5] r8 (b8 || decide (nn = 0))) := (Chn.cons P0.out (Chn.cons P1.out (Chn.cons P2.out (Chn.cons P3.out (Chn.cons P4.out (Chn.cons (PT.out.or _) Chn.nil))))))
  have HSP := Hid.mk (HC.out.split (by omega))
  rw [HR0.out] at HSP
  have HZ : Hid (b8 = false → r8.size = 0) := fun hb => stp_types_end PT.out hb
  clear HC P0 P1 P2 P3 P4 PT g1 f1 g2 f2 g3 f3 g4 f4
  obtain ⟨u0, v0⟩ := Q.out.s.rr.c0
  obtain ⟨u1, v1⟩ := Q.out.s.rr.c1
  obtain ⟨x0, y0⟩ := cells_at (v := .int .i64 ((numB t0.data.toList : Nat) : Int)) (j := 0) Q.out.x rfl
  obtain ⟨x1, y1⟩ := cells_at (v := .int .i64 ((numB t1.data.toList : Nat) : Int)) (j := 1) Q.out.x rfl
  obtain ⟨x2, y2⟩ := cells_at (v := .int .i64 ((numB t2.data.toList : Nat) : Int)) (j := 2) Q.out.x rfl
  obtain ⟨x3, y3⟩ := cells_at (v := .string sa) (j := 3) Q.out.x rfl
  obtain ⟨x4, y4⟩ := cells_at (v := .string nx) (j := 4) Q.out.x rfl
  obtain ⟨x5, y5⟩ := cells_at (v := .slice q l.length c) (j := 5) Q.out.x rfl
  obtain ⟨a0, c0⟩ := cells_at (v := .int .i64 0) (j := 0) Q.out.s.res rfl
  obtain ⟨a1, c1⟩ := cells_at (v := .int .i64 0) (j := 1) Q.out.s.res rfl
  obtain ⟨a2, c2⟩ := cells_at (v := .int .i64 0) (j := 2) Q.out.s.res rfl
  obtain ⟨a3, c3⟩ := cells_at (v := .string ⟨#[]⟩) (j := 3) Q.out.s.res rfl
  obtain ⟨a4, c4⟩ := cells_at (v := .string ⟨#[]⟩) (j := 4) Q.out.s.res rfl
  obtain ⟨a5, c5⟩ := cells_at (v := .slice none 0 0) (j := 5) Q.out.s.res rfl
  rcases HSP.out with ⟨e1, e2, e3, e4⟩ | ⟨e1, e4⟩
  · have HE := Hid.mk e4
    obtain ⟨e5, e6⟩ := Bool.or_eq_false_iff.1 e1
    have hn0 : nn ≠ 0 := of_decide_eq_false e6
    have hnb : (((nn : Nat) : Int) == 0) = false := by rw [beq_eq_false_iff_ne]; omega
    subst e5
    have HT2 := Hid.mk (HTL.out rfl)
    clear e4 e1 e6 HSP HTL
    go_wp2
    have st0 : ((w8.setCell ⟨w1.heap.size, 5, none⟩ (.slice q l.length c)).setCell ⟨W.heap.size, 0, none⟩ (.int .i64 ((numB t0.data.toList : Nat) : Int))).heap[W.heap.size]? = some (.cells #[.int .i64 ((numB t0.data.toList : Nat) : Int), .int .i64 0, .int .i64 0, .string ⟨#[]⟩, .string ⟨#[]⟩, .slice none 0 0] 56 (0, 0)) := cells_put (j := 0) Q.out.s.res (.int .i64 ((numB t0.data.toList : Nat) : Int))
    have rw0 := ownsRow_setCell_below RWX.out (a := ⟨W.heap.size, 0, none⟩) hWlt (.int .i64 ((numB t0.data.toList : Nat) : Int))
    have st1 : (((w8.setCell ⟨w1.heap.size, 5, none⟩ (.slice q l.length c)).setCell ⟨W.heap.size, 0, none⟩ (.int .i64 ((numB t0.data.toList : Nat) : Int))).setCell ⟨W.heap.size, 1, none⟩ (.int .i64 ((numB t1.data.toList : Nat) : Int))).heap[W.heap.size]? = some (.cells #[.int .i64 ((numB t0.data.toList : Nat) : Int), .int .i64 ((numB t1.data.toList : Nat) : Int), .int .i64 0, .string ⟨#[]⟩, .string ⟨#[]⟩, .slice none 0 0] 56 (0, 0)) := cells_put (j := 1) st0 (.int .i64 ((numB t1.data.toList : Nat) : Int))
    have rw1 := ownsRow_setCell_below rw0 (a := ⟨W.heap.size, 1, none⟩) hWlt (.int .i64 ((numB t1.data.toList : Nat) : Int))
    have st2 : ((((w8.setCell ⟨w1.heap.size, 5, none⟩ (.slice q l.length c)).setCell ⟨W.heap.size, 0, none⟩ (.int .i64 ((numB t0.data.toList : Nat) : Int))).setCell ⟨W.heap.size, 1, none⟩ (.int .i64 ((numB t1.data.toList : Nat) : Int))).setCell ⟨W.heap.size, 2, none⟩ (.int .i64 ((numB t2.data.toList : Nat) : Int))).heap[W.heap.size]? = some (.cells #[.int .i64 ((numB t0.data.toList : Nat) : Int), .int .i64 ((numB t1.data.toList : Nat) : Int), .int .i64 ((numB t2.data.toList : Nat) : Int), .string ⟨#[]⟩, .string ⟨#[]⟩, .slice none 0 0] 56 (0, 0)) := cells_put (j := 2) st1 (.int .i64 ((numB t2.data.toList : Nat) : Int))
    have rw2 := ownsRow_setCell_below rw1 (a := ⟨W.heap.size, 2, none⟩) hWlt (.int .i64 ((numB t2.data.toList : Nat) : Int))
    have st3 : (((((w8.setCell ⟨w1.heap.size, 5, none⟩ (.slice q l.length c)).setCell ⟨W.heap.size, 0, none⟩ (.int .i64 ((numB t0.data.toList : Nat) : Int))).setCell ⟨W.heap.size, 1, none⟩ (.int .i64 ((numB t1.data.toList : Nat) : Int))).setCell ⟨W.heap.size, 2, none⟩ (.int .i64 ((numB t2.data.toList : Nat) : Int))).setCell ⟨W.heap.size, 3, none⟩ (.string sa)).heap[W.heap.size]? = some (.cells #[.int .i64 ((numB t0.data.toList : Nat) : Int), .int .i64 ((numB t1.data.toList : Nat) : Int), .int .i64 ((numB t2.data.toList : Nat) : Int), .string sa, .string ⟨#[]⟩, .slice none 0 0] 56 (0, 0)) := cells_put (j := 3) st2 (.string sa)
    have rw3 := ownsRow_setCell_below rw2 (a := ⟨W.heap.size, 3, none⟩) hWlt (.string sa)
    have st4 : ((((((w8.setCell ⟨w1.heap.size, 5, none⟩ (.slice q l.length c)).setCell ⟨W.heap.size, 0, none⟩ (.int .i64 ((numB t0.data.toList : Nat) : Int))).setCell ⟨W.heap.size, 1, none⟩ (.int .i64 ((numB t1.data.toList : Nat) : Int))).setCell ⟨W.heap.size, 2, none⟩ (.int .i64 ((numB t2.data.toList : Nat) : Int))).setCell ⟨W.heap.size, 3, none⟩ (.string sa)).setCell ⟨W.heap.size, 4, none⟩ (.string nx)).heap[W.heap.size]? = some (.cells #[.int .i64 ((numB t0.data.toList : Nat) : Int), .int .i64 ((numB t1.data.toList : Nat) : Int), .int .i64 ((numB t2.data.toList : Nat) : Int), .string sa, .string nx, .slice none 0 0] 56 (0, 0)) := cells_put (j := 4) st3 (.string nx)
    have rw4 := ownsRow_setCell_below rw3 (a := ⟨W.heap.size, 4, none⟩) hWlt (.string nx)
    have st5 : (((((((w8.setCell ⟨w1.heap.size, 5, none⟩ (.slice q l.length c)).setCell ⟨W.heap.size, 0, none⟩ (.int .i64 ((numB t0.data.toList : Nat) : Int))).setCell ⟨W.heap.size, 1, none⟩ (.int .i64 ((numB t1.data.toList : Nat) : Int))).setCell ⟨W.heap.size, 2, none⟩ (.int .i64 ((numB t2.data.toList : Nat) : Int))).setCell ⟨W.heap.size, 3, none⟩ (.string sa)).setCell ⟨W.heap.size, 4, none⟩ (.string nx)).setCell ⟨W.heap.size, 5, none⟩ (.slice q l.length c)).heap[W.heap.size]? = some (.cells #[.int .i64 ((numB t0.data.toList : Nat) : Int), .int .i64 ((numB t1.data.toList : Nat) : Int), .int .i64 ((numB t2.data.toList : Nat) : Int), .string sa, .string nx, .slice q l.length c] 56 (0, 0)) := cells_put (j := 5) st4 (.slice q l.length c)
    have rw5 := ownsRow_setCell_below rw4 (a := ⟨W.heap.size, 5, none⟩) hWlt (.slice q l.length c)
    have hfin := st5
    refine bodyPost_ret (v := .tuple #[.agg #[.int .i64 ((numB t0.data.toList : Nat) : Int), .int .i64 ((numB t1.data.toList : Nat) : Int), .int .i64 ((numB t2.data.toList : Nat) : Int), .string sa, .string nx, .slice q l.length c], .bool true]) (by simp [results, Tryz.results19, go_sem, (cells_at (v := .int .i64 ((numB t0.data.toList : Nat) : Int)) (j := 0) hfin rfl).1, (cells_at (v := .int .i64 ((numB t1.data.toList : Nat) : Int)) (j := 1) hfin rfl).1, (cells_at (v := .int .i64 ((numB t2.data.toList : Nat) : Int)) (j := 2) hfin rfl).1, (cells_at (v := .string sa) (j := 3) hfin rfl).1, (cells_at (v := .string nx) (j := 4) hfin rfl).1, (cells_at (v := .slice q l.length c) (j := 5) hfin rfl).1]) rfl ⟨.inl ⟨t0, t1, t2, sa, nx, r5, _, l, na, nn, HE.out, HT2.out, rfl, ints_of_row rw5⟩, ((((((Q.out.s.bel).setCell (p := ⟨W.heap.size, 0, none⟩) (Nat.le_refl _) _).setCell (p := ⟨W.heap.size, 1, none⟩) (Nat.le_refl _) _).setCell (p := ⟨W.heap.size, 2, none⟩) (Nat.le_refl _) _).setCell (p := ⟨W.heap.size, 3, none⟩) (Nat.le_refl _) _).setCell (p := ⟨W.heap.size, 4, none⟩) (Nat.le_refl _) _).setCell (p := ⟨W.heap.size, 5, none⟩) (Nat.le_refl _) _⟩
  · have HE := Hid.mk e4
    clear e4 HSP HTL
    cases b8 with
    | true =>
      clear e1 HZ
      go_wp2
      have st0 : ((w8.setCell ⟨w1.heap.size, 5, none⟩ (.slice q l.length c)).setCell ⟨W.heap.size, 0, none⟩ (.int .i64 0)).heap[W.heap.size]? = some (.cells #[.int .i64 0, .int .i64 0, .int .i64 0, .string ⟨#[]⟩, .string ⟨#[]⟩, .slice none 0 0] 56 (0, 0)) := cells_put (j := 0) Q.out.s.res (.int .i64 0)
      have st1 : (((w8.setCell ⟨w1.heap.size, 5, none⟩ (.slice q l.length c)).setCell ⟨W.heap.size, 0, none⟩ (.int .i64 0)).setCell ⟨W.heap.size, 1, none⟩ (.int .i64 0)).heap[W.heap.size]? = some (.cells #[.int .i64 0, .int .i64 0, .int .i64 0, .string ⟨#[]⟩, .string ⟨#[]⟩, .slice none 0 0] 56 (0, 0)) := cells_put (j := 1) st0 (.int .i64 0)
      have st2 : ((((w8.setCell ⟨w1.heap.size, 5, none⟩ (.slice q l.length c)).setCell ⟨W.heap.size, 0, none⟩ (.int .i64 0)).setCell ⟨W.heap.size, 1, none⟩ (.int .i64 0)).setCell ⟨W.heap.size, 2, none⟩ (.int .i64 0)).heap[W.heap.size]? = some (.cells #[.int .i64 0, .int .i64 0, .int .i64 0, .string ⟨#[]⟩, .string ⟨#[]⟩, .slice none 0 0] 56 (0, 0)) := cells_put (j := 2) st1 (.int .i64 0)
      have st3 : (((((w8.setCell ⟨w1.heap.size, 5, none⟩ (.slice q l.length c)).setCell ⟨W.heap.size, 0, none⟩ (.int .i64 0)).setCell ⟨W.heap.size, 1, none⟩ (.int .i64 0)).setCell ⟨W.heap.size, 2, none⟩ (.int .i64 0)).setCell ⟨W.heap.size, 3, none⟩ (.string ⟨#[]⟩)).heap[W.heap.size]? = some (.cells #[.int .i64 0, .int .i64 0, .int .i64 0, .string ⟨#[]⟩, .string ⟨#[]⟩, .slice none 0 0] 56 (0, 0)) := cells_put (j := 3) st2 (.string ⟨#[]⟩)
      have st4 : ((((((w8.setCell ⟨w1.heap.size, 5, none⟩ (.slice q l.length c)).setCell ⟨W.heap.size, 0, none⟩ (.int .i64 0)).setCell ⟨W.heap.size, 1, none⟩ (.int .i64 0)).setCell ⟨W.heap.size, 2, none⟩ (.int .i64 0)).setCell ⟨W.heap.size, 3, none⟩ (.string ⟨#[]⟩)).setCell ⟨W.heap.size, 4, none⟩ (.string ⟨#[]⟩)).heap[W.heap.size]? = some (.cells #[.int .i64 0, .int .i64 0, .int .i64 0, .string ⟨#[]⟩, .string ⟨#[]⟩, .slice none 0 0] 56 (0, 0)) := cells_put (j := 4) st3 (.string ⟨#[]⟩)
      have st5 : (((((((w8.setCell ⟨w1.heap.size, 5, none⟩ (.slice q l.length c)).setCell ⟨W.heap.size, 0, none⟩ (.int .i64 0)).setCell ⟨W.heap.size, 1, none⟩ (.int .i64 0)).setCell ⟨W.heap.size, 2, none⟩ (.int .i64 0)).setCell ⟨W.heap.size, 3, none⟩ (.string ⟨#[]⟩)).setCell ⟨W.heap.size, 4, none⟩ (.string ⟨#[]⟩)).setCell ⟨W.heap.size, 5, none⟩ (.slice none 0 0)).heap[W.heap.size]? = some (.cells #[.int .i64 0, .int .i64 0, .int .i64 0, .string ⟨#[]⟩, .string ⟨#[]⟩, .slice none 0 0] 56 (0, 0)) := cells_put (j := 5) st4 (.slice none 0 0)
      have hfin := st5
      refine bodyPost_ret (v := .tuple #[.agg #[.int .i64 0, .int .i64 0, .int .i64 0, .string ⟨#[]⟩, .string ⟨#[]⟩, .slice none 0 0], .bool false]) (by simp [results, Tryz.results19, go_sem, (cells_at (v := .int .i64 0) (j := 0) hfin rfl).1, (cells_at (v := .int .i64 0) (j := 1) hfin rfl).1, (cells_at (v := .int .i64 0) (j := 2) hfin rfl).1, (cells_at (v := .string ⟨#[]⟩) (j := 3) hfin rfl).1, (cells_at (v := .string ⟨#[]⟩) (j := 4) hfin rfl).1, (cells_at (v := .slice none 0 0) (j := 5) hfin rfl).1]) rfl ⟨.inr ⟨HE.out, rfl⟩, ((((((Q.out.s.bel).setCell (p := ⟨W.heap.size, 0, none⟩) (Nat.le_refl _) _).setCell (p := ⟨W.heap.size, 1, none⟩) (Nat.le_refl _) _).setCell (p := ⟨W.heap.size, 2, none⟩) (Nat.le_refl _) _).setCell (p := ⟨W.heap.size, 3, none⟩) (Nat.le_refl _) _).setCell (p := ⟨W.heap.size, 4, none⟩) (Nat.le_refl _) _).setCell (p := ⟨W.heap.size, 5, none⟩) (Nat.le_refl _) _⟩
    | false =>
      by_cases hn0 : nn = 0
      · have hnb : (((nn : Nat) : Int) == 0) = true := by rw [hn0]; rfl
        clear e1 HZ hn0
        go_wp2
        have st0 : ((w8.setCell ⟨w1.heap.size, 5, none⟩ (.slice q l.length c)).setCell ⟨W.heap.size, 0, none⟩ (.int .i64 0)).heap[W.heap.size]? = some (.cells #[.int .i64 0, .int .i64 0, .int .i64 0, .string ⟨#[]⟩, .string ⟨#[]⟩, .slice none 0 0] 56 (0, 0)) := cells_put (j := 0) Q.out.s.res (.int .i64 0)
        have st1 : (((w8.setCell ⟨w1.heap.size, 5, none⟩ (.slice q l.length c)).setCell ⟨W.heap.size, 0, none⟩ (.int .i64 0)).setCell ⟨W.heap.size, 1, none⟩ (.int .i64 0)).heap[W.heap.size]? = some (.cells #[.int .i64 0, .int .i64 0, .int .i64 0, .string ⟨#[]⟩, .string ⟨#[]⟩, .slice none 0 0] 56 (0, 0)) := cells_put (j := 1) st0 (.int .i64 0)
        have st2 : ((((w8.setCell ⟨w1.heap.size, 5, none⟩ (.slice q l.length c)).setCell ⟨W.heap.size, 0, none⟩ (.int .i64 0)).setCell ⟨W.heap.size, 1, none⟩ (.int .i64 0)).setCell ⟨W.heap.size, 2, none⟩ (.int .i64 0)).heap[W.heap.size]? = some (.cells #[.int .i64 0, .int .i64 0, .int .i64 0, .string ⟨#[]⟩, .string ⟨#[]⟩, .slice none 0 0] 56 (0, 0)) := cells_put (j := 2) st1 (.int .i64 0)
        have st3 : (((((w8.setCell ⟨w1.heap.size, 5, none⟩ (.slice q l.length c)).setCell ⟨W.heap.size, 0, none⟩ (.int .i64 0)).setCell ⟨W.heap.size, 1, none⟩ (.int .i64 0)).setCell ⟨W.heap.size, 2, none⟩ (.int .i64 0)).setCell ⟨W.heap.size, 3, none⟩ (.string ⟨#[]⟩)).heap[W.heap.size]? = some (.cells #[.int .i64 0, .int .i64 0, .int .i64 0, .string ⟨#[]⟩, .string ⟨#[]⟩, .slice none 0 0] 56 (0, 0)) := cells_put (j := 3) st2 (.string ⟨#[]⟩)
        have st4 : ((((((w8.setCell ⟨w1.heap.size, 5, none⟩ (.slice q l.length c)).setCell ⟨W.heap.size, 0, none⟩ (.int .i64 0)).setCell ⟨W.heap.size, 1, none⟩ (.int .i64 0)).setCell ⟨W.heap.size, 2, none⟩ (.int .i64 0)).setCell ⟨W.heap.size, 3, none⟩ (.string ⟨#[]⟩)).setCell ⟨W.heap.size, 4, none⟩ (.string ⟨#[]⟩)).heap[W.heap.size]? = some (.cells #[.int .i64 0, .int .i64 0, .int .i64 0, .string ⟨#[]⟩, .string ⟨#[]⟩, .slice none 0 0] 56 (0, 0)) := cells_put (j := 4) st3 (.string ⟨#[]⟩)
        have st5 : (((((((w8.setCell ⟨w1.heap.size, 5, none⟩ (.slice q l.length c)).setCell ⟨W.heap.size, 0, none⟩ (.int .i64 0)).setCell ⟨W.heap.size, 1, none⟩ (.int .i64 0)).setCell ⟨W.heap.size, 2, none⟩ (.int .i64 0)).setCell ⟨W.heap.size, 3, none⟩ (.string ⟨#[]⟩)).setCell ⟨W.heap.size, 4, none⟩ (.string ⟨#[]⟩)).setCell ⟨W.heap.size, 5, none⟩ (.slice none 0 0)).heap[W.heap.size]? = some (.cells #[.int .i64 0, .int .i64 0, .int .i64 0, .string ⟨#[]⟩, .string ⟨#[]⟩, .slice none 0 0] 56 (0, 0)) := cells_put (j := 5) st4 (.slice none 0 0)
        have hfin := st5
        refine bodyPost_ret (v := .tuple #[.agg #[.int .i64 0, .int .i64 0, .int .i64 0, .string ⟨#[]⟩, .string ⟨#[]⟩, .slice none 0 0], .bool false]) (by simp [results, Tryz.results19, go_sem, (cells_at (v := .int .i64 0) (j := 0) hfin rfl).1, (cells_at (v := .int .i64 0) (j := 1) hfin rfl).1, (cells_at (v := .int .i64 0) (j := 2) hfin rfl).1, (cells_at (v := .string ⟨#[]⟩) (j := 3) hfin rfl).1, (cells_at (v := .string ⟨#[]⟩) (j := 4) hfin rfl).1, (cells_at (v := .slice none 0 0) (j := 5) hfin rfl).1]) rfl ⟨.inr ⟨HE.out, rfl⟩, ((((((Q.out.s.bel).setCell (p := ⟨W.heap.size, 0, none⟩) (Nat.le_refl _) _).setCell (p := ⟨W.heap.size, 1, none⟩) (Nat.le_refl _) _).setCell (p := ⟨W.heap.size, 2, none⟩) (Nat.le_refl _) _).setCell (p := ⟨W.heap.size, 3, none⟩) (Nat.le_refl _) _).setCell (p := ⟨W.heap.size, 4, none⟩) (Nat.le_refl _) _).setCell (p := ⟨W.heap.size, 5, none⟩) (Nat.le_refl _) _⟩
      · have hnb : (((nn : Nat) : Int) == 0) = false := by rw [beq_eq_false_iff_ne]; omega
        have e3 : 2000 < d.size := by
          have := HZ.out rfl
          rw [decide_eq_false hn0] at e1
          rcases e1 with h | h | h
          · cases h
          · omega
          · exact h
        clear e1 HZ
        go_wp2
        have st0 : ((w8.setCell ⟨w1.heap.size, 5, none⟩ (.slice q l.length c)).setCell ⟨W.heap.size, 0, none⟩ (.int .i64 0)).heap[W.heap.size]? = some (.cells #[.int .i64 0, .int .i64 0, .int .i64 0, .string ⟨#[]⟩, .string ⟨#[]⟩, .slice none 0 0] 56 (0, 0)) := cells_put (j := 0) Q.out.s.res (.int .i64 0)
        have st1 : (((w8.setCell ⟨w1.heap.size, 5, none⟩ (.slice q l.length c)).setCell ⟨W.heap.size, 0, none⟩ (.int .i64 0)).setCell ⟨W.heap.size, 1, none⟩ (.int .i64 0)).heap[W.heap.size]? = some (.cells #[.int .i64 0, .int .i64 0, .int .i64 0, .string ⟨#[]⟩, .string ⟨#[]⟩, .slice none 0 0] 56 (0, 0)) := cells_put (j := 1) st0 (.int .i64 0)
        have st2 : ((((w8.setCell ⟨w1.heap.size, 5, none⟩ (.slice q l.length c)).setCell ⟨W.heap.size, 0, none⟩ (.int .i64 0)).setCell ⟨W.heap.size, 1, none⟩ (.int .i64 0)).setCell ⟨W.heap.size, 2, none⟩ (.int .i64 0)).heap[W.heap.size]? = some (.cells #[.int .i64 0, .int .i64 0, .int .i64 0, .string ⟨#[]⟩, .string ⟨#[]⟩, .slice none 0 0] 56 (0, 0)) := cells_put (j := 2) st1 (.int .i64 0)
        have st3 : (((((w8.setCell ⟨w1.heap.size, 5, none⟩ (.slice q l.length c)).setCell ⟨W.heap.size, 0, none⟩ (.int .i64 0)).setCell ⟨W.heap.size, 1, none⟩ (.int .i64 0)).setCell ⟨W.heap.size, 2, none⟩ (.int .i64 0)).setCell ⟨W.heap.size, 3, none⟩ (.string ⟨#[]⟩)).heap[W.heap.size]? = some (.cells #[.int .i64 0, .int .i64 0, .int .i64 0, .string ⟨#[]⟩, .string ⟨#[]⟩, .slice none 0 0] 56 (0, 0)) := cells_put (j := 3) st2 (.string ⟨#[]⟩)
        have st4 : ((((((w8.setCell ⟨w1.heap.size, 5, none⟩ (.slice q l.length c)).setCell ⟨W.heap.size, 0, none⟩ (.int .i64 0)).setCell ⟨W.heap.size, 1, none⟩ (.int .i64 0)).setCell ⟨W.heap.size, 2, none⟩ (.int .i64 0)).setCell ⟨W.heap.size, 3, none⟩ (.string ⟨#[]⟩)).setCell ⟨W.heap.size, 4, none⟩ (.string ⟨#[]⟩)).heap[W.heap.size]? = some (.cells #[.int .i64 0, .int .i64 0, .int .i64 0, .string ⟨#[]⟩, .string ⟨#[]⟩, .slice none 0 0] 56 (0, 0)) := cells_put (j := 4) st3 (.string ⟨#[]⟩)
        have st5 : (((((((w8.setCell ⟨w1.heap.size, 5, none⟩ (.slice q l.length c)).setCell ⟨W.heap.size, 0, none⟩ (.int .i64 0)).setCell ⟨W.heap.size, 1, none⟩ (.int .i64 0)).setCell ⟨W.heap.size, 2, none⟩ (.int .i64 0)).setCell ⟨W.heap.size, 3, none⟩ (.string ⟨#[]⟩)).setCell ⟨W.heap.size, 4, none⟩ (.string ⟨#[]⟩)).setCell ⟨W.heap.size, 5, none⟩ (.slice none 0 0)).heap[W.heap.size]? = some (.cells #[.int .i64 0, .int .i64 0, .int .i64 0, .string ⟨#[]⟩, .string ⟨#[]⟩, .slice none 0 0] 56 (0, 0)) := cells_put (j := 5) st4 (.slice none 0 0)
        have hfin := st5
        refine bodyPost_ret (v := .tuple #[.agg #[.int .i64 0, .int .i64 0, .int .i64 0, .string ⟨#[]⟩, .string ⟨#[]⟩, .slice none 0 0], .bool false]) (by simp [results, Tryz.results19, go_sem, (cells_at (v := .int .i64 0) (j := 0) hfin rfl).1, (cells_at (v := .int .i64 0) (j := 1) hfin rfl).1, (cells_at (v := .int .i64 0) (j := 2) hfin rfl).1, (cells_at (v := .string ⟨#[]⟩) (j := 3) hfin rfl).1, (cells_at (v := .string ⟨#[]⟩) (j := 4) hfin rfl).1, (cells_at (v := .slice none 0 0) (j := 5) hfin rfl).1]) rfl ⟨.inr ⟨HE.out, rfl⟩, ((((((Q.out.s.bel).setCell (p := ⟨W.heap.size, 0, none⟩) (Nat.le_refl _) _).setCell (p := ⟨W.heap.size, 1, none⟩) (Nat.le_refl _) _).setCell (p := ⟨W.heap.size, 2, none⟩) (Nat.le_refl _) _).setCell (p := ⟨W.heap.size, 3, none⟩) (Nat.le_refl _) _).setCell (p := ⟨W.heap.size, 4, none⟩) (Nat.le_refl _) _).setCell (p := ⟨W.heap.size, 5, none⟩) (Nat.le_refl _) _⟩
end Go.Proofs.YtdhcbaennpediaaGreatDoor

/- DS: taken apart, and put together. -/
namespace Go.Proofs.YtdhcbaennpediaaGreatDoor
set_option linter.unusedVariables false
open Go.RowKit

set_option maxRecDepth 100000 in
set_option maxHeartbeats 4000000 in
theorem putDs_in (n0 n1 n2 : Nat) (s3 : ByteArray) (h0 : n0 < 65536) (h1 : n1 < 256) (h2 : n2 < 256) (h3 : s3.size ≤ 2000) (W : World) (xb : Nat) (hx : W.heap[xb]? = some (.cells #[.int .i64 ((n0 : Nat) : Int), .int .i64 ((n1 : Nat) : Int), .int .i64 ((n2 : Nat) : Int), .string s3] 43 (0, 0))) :
    Calls Tryz.prog 53 #[boxV xb] W fun e w' => PutPost (some [⟨(bytesB n0 2).toArray⟩, ⟨(bytesB n1 1).toArray⟩, ⟨(bytesB n2 1).toArray⟩, s3]) W e w' := by
  have hmo : Tryz.prog.follows Departure.mixedOrders = true := by kernel_rfl
  have HL : Hid (∀ (G : Prop) (A B : World), A.heap[xb]? = some (.cells #[.int .i64 ((n0 : Nat) : Int), .int .i64 ((n1 : Nat) : Int), .int .i64 ((n2 : Nat) : Int), .string s3] 43 (0, 0)) → Below W.heap.size W A → Below A.heap.size A B → (B.heap[xb]? = some (.cells #[.int .i64 ((n0 : Nat) : Int), .int .i64 ((n1 : Nat) : Int), .int .i64 ((n2 : Nat) : Int), .string s3] 43 (0, 0)) → Below W.heap.size W B → B.cell? ⟨xb, 0, none⟩ = some (.int .i64 ((n0 : Nat) : Int)) → B.cell? ⟨xb, 1, none⟩ = some (.int .i64 ((n1 : Nat) : Int)) → B.cell? ⟨xb, 2, none⟩ = some (.int .i64 ((n2 : Nat) : Int)) → B.cell? ⟨xb, 3, none⟩ = some (.string s3) → G) → G) := by
    intro G A B hA hW hB hG
    have hB' := (hB.block xb (box_lt hA)).trans hA
    exact hG hB' (bth hW hB hW.size) (cells_at hB' rfl).1 (cells_at hB' rfl).1 (cells_at hB' rfl).1 (cells_at hB' rfl).1
  have c0 := (cells_at (v := .int .i64 ((n0 : Nat) : Int)) (j := 0) hx rfl).1
  have c1 := (cells_at (v := .int .i64 ((n1 : Nat) : Int)) (j := 1) hx rfl).1
  have c2 := (cells_at (v := .int .i64 ((n2 : Nat) : Int)) (j := 2) hx rfl).1
  have c3 := (cells_at (v := .string s3) (j := 3) hx rfl).1
  have HB0 := Hid.mk (bytes2_yes n0 h0)
  generalize (⟨(bytesB n0 2).toArray⟩ : ByteArray) = q0 at HB0 ⊢
  have HB1 := Hid.mk (bytes1_yes n1 h1)
  generalize (⟨(bytesB n1 1).toArray⟩ : ByteArray) = q1 at HB1 ⊢
  have HB2 := Hid.mk (bytes1_yes n2 h2)
  generalize (⟨(bytesB n2 1).toArray⟩ : ByteArray) = q2 at HB2 ⊢
  have X0 : W.drew.heap[xb]? = some (.cells #[.int .i64 ((n0 : Nat) : Int), .int .i64 ((n1 : Nat) : Int), .int .i64 ((n2 : Nat) : Int), .string s3] 43 (0, 0)) := hx
  have B0 : Below W.heap.size W W.drew := (Below.refl _ _).drew
  clear hx
  go_enter Tryz.func53, Tryz.ntmps53
  go_wp2
  go_region_held3 (fun w' => w'.cell? ⟨xb, 0, none⟩ = some (.int .i64 ((n0 : Nat) : Int)) ∧ w'.cell? ⟨xb, 1, none⟩ = some (.int .i64 ((n1 : Nat) : Int)) ∧ w'.cell? ⟨xb, 2, none⟩ = some (.int .i64 ((n2 : Nat) : Int)) ∧ w'.cell? ⟨xb, 3, none⟩ = some (.string s3)) (first | ((repeat' apply And.intro) <;> assumption) | go_keep)
    (first | (have hck := X2; clear hck; go_at_call 46; refine (HB2.out _).mono ?_; rintro e x3 ⟨rfl, y3⟩; refine HL.out _ _ x3 X2 B2 y3 ?_; intro X3 B3 d0_3 d1_3 d2_3 d3_3) | (have hck := X1; clear hck; go_at_call 46; refine (HB1.out _).mono ?_; rintro e x2 ⟨rfl, y2⟩; refine HL.out _ _ x2 X1 B1 y2 ?_; intro X2 B2 d0_2 d1_2 d2_2 d3_2) | (have hck := X0; clear hck; go_at_call 46; refine (HB0.out _).mono ?_; rintro e x1 ⟨rfl, y1⟩; refine HL.out _ _ x1 X0 B0 y1 ?_; intro X1 B1 d0_1 d1_1 d2_1 d3_1))
  have hsm := B3.size
  go_wp2
  go_ret
  exact ⟨⟨_, rfl, row_down (row_lit x3 [q0, q1, q2, s3] (by unfold maxLen; simp) (by simp)) hsm⟩, B3.alloc hsm _⟩

set_option maxRecDepth 100000 in
theorem ofDs_in (n0 n1 n2 : Nat) (s3 : ByteArray) (h0 : n0 < 65536) (h1 : n1 < 256) (h2 : n2 < 256) (h3 : s3.size ≤ 2000) (W : World) :
    Calls Tryz.prog 27 #[.agg #[.int .i64 ((n0 : Nat) : Int), .int .i64 ((n1 : Nat) : Int), .int .i64 ((n2 : Nat) : Int), .string s3]] W fun e w' => e = .returned (.tuple #[.string (strOf (joinR 43 (some [⟨(bytesB n0 2).toArray⟩, ⟨(bytesB n1 1).toArray⟩, ⟨(bytesB n2 1).toArray⟩, s3]))), .int .i64 (errOf (joinR 43 (some [⟨(bytesB n0 2).toArray⟩, ⟨(bytesB n1 1).toArray⟩, ⟨(bytesB n2 1).toArray⟩, s3])))]) ∧ Below W.heap.size W w' := by
  have hmf := mkf
  have hbw : Below W.heap.size W (W.alloc (.cells #[.int .i64 ((n0 : Nat) : Int), .int .i64 ((n1 : Nat) : Int), .int .i64 ((n2 : Nat) : Int), .string s3] 43)) := (Below.refl _ _).alloc (Nat.le_refl _) _
  have HJ := Hid.mk (joined_in (W.alloc (.cells #[.int .i64 ((n0 : Nat) : Int), .int .i64 ((n1 : Nat) : Int), .int .i64 ((n2 : Nat) : Int), .string s3] 43)) 43 53 #[boxV W.heap.size] (enters_by Tryz.func53 (by kernel_rfl) rfl) (some [⟨(bytesB n0 2).toArray⟩, ⟨(bytesB n1 1).toArray⟩, ⟨(bytesB n2 1).toArray⟩, s3]) (fun ps e => by
      cases e
      refine ⟨by simp, ?_⟩
      simp only [cat, app_size, ba_size, bytesB_len, List.length_nil]
      have : (⟨#[]⟩ : ByteArray).size = 0 := rfl
      omega) (fun W' hb => putDs_in n0 n1 n2 s3 h0 h1 h2 h3 W' W.heap.size ((hb.block _ (by simp)).trans (heap_new _ _))))
  generalize joinR 43 (some [⟨(bytesB n0 2).toArray⟩, ⟨(bytesB n1 1).toArray⟩, ⟨(bytesB n2 1).toArray⟩, s3]) = J at HJ ⊢
  go_enter Tryz.func27, Tryz.ntmps27
  go_wp2_with fail
  refine HJ.out.mono ?_
  rintro e w1 ⟨rfl, hb1⟩
  go_wp2
  go_ret2
  exact ⟨rfl, bth hbw hb1 hbw.size⟩

def TakeDs (d : ByteArray) (v : Value) (er : Int) : Prop := ∃ (n0 n1 n2 : Nat) (s3 : ByteArray), v = .agg #[.int .i64 ((n0 : Nat) : Int), .int .i64 ((n1 : Nat) : Int), .int .i64 ((n2 : Nat) : Int), .string s3] ∧ (n0 < 65536 ∧ n1 < 256 ∧ n2 < 256 ∧ s3.size ≤ 2000) ∧ (er = 0 → joinR 43 (some [⟨(bytesB n0 2).toArray⟩, ⟨(bytesB n1 1).toArray⟩, ⟨(bytesB n2 1).toArray⟩, s3]) = some d) ∧ (er = 0 ∨ (er = 6 ∧ splitR 43 d = none ∧ v = .agg #[.int .i64 0, .int .i64 0, .int .i64 0, .string ⟨#[]⟩]))
theorem takeDs_ok (d p0 p1 p2 p3 : ByteArray) (h : splitR 43 d = some [p0, p1, p2, p3]) : TakeDs d (.agg #[.int .i64 ((numB p0.data.toList : Nat) : Int), .int .i64 ((numB p1.data.toList : Nat) : Int), .int .i64 ((numB p2.data.toList : Nat) : Int), .string p3]) 0 ∧ (p0.size ≤ 7 ∧ p1.size ≤ 7 ∧ p2.size ≤ 7 ∧ p3.size ≤ 2000) := by
  obtain ⟨hk, hs, hd, hg⟩ := (split_iff 43 d _).1 h
  have hg' : p0.size = 2 ∧ p1.size = 1 ∧ p2.size = 1 ∧ 0 < p3.size ∧ True := hg
  have hcs : p0.size + p1.size + p2.size + p3.size ≤ 2000 := by
    rw [hd] at hs
    simp only [cat, app_size] at hs
    have : (⟨#[]⟩ : ByteArray).size = 0 := rfl
    omega
  have e0 : (⟨(bytesB (numB p0.data.toList) 2).toArray⟩ : ByteArray) = p0 := by
    apply ba_ext
    have := bytesB_num p0.data.toList (by rw [size_list]; omega)
    rw [size_list, show p0.size = 2 by omega] at this
    exact this
  have e1 : (⟨(bytesB (numB p1.data.toList) 1).toArray⟩ : ByteArray) = p1 := by
    apply ba_ext
    have := bytesB_num p1.data.toList (by rw [size_list]; omega)
    rw [size_list, show p1.size = 1 by omega] at this
    exact this
  have e2 : (⟨(bytesB (numB p2.data.toList) 1).toArray⟩ : ByteArray) = p2 := by
    apply ba_ext
    have := bytesB_num p2.data.toList (by rw [size_list]; omega)
    rw [size_list, show p2.size = 1 by omega] at this
    exact this
  have l0 : numB p0.data.toList < 65536 := by
    have := numB_lt p0.data.toList
    rw [size_list, show p0.size = 2 by omega] at this
    simpa using this
  have l1 : numB p1.data.toList < 256 := by
    have := numB_lt p1.data.toList
    rw [size_list, show p1.size = 1 by omega] at this
    simpa using this
  have l2 : numB p2.data.toList < 256 := by
    have := numB_lt p2.data.toList
    rw [size_list, show p2.size = 1 by omega] at this
    simpa using this
  refine ⟨⟨numB p0.data.toList, numB p1.data.toList, numB p2.data.toList, p3, rfl, ⟨l0, l1, l2, by omega⟩, fun _ => ?_, .inl rfl⟩, by omega, by omega, by omega, by omega⟩
  rw [e0, e1, e2, joinR, ← hd, h]
  exact if_pos rfl
set_option maxRecDepth 100000 in
set_option maxHeartbeats 4000000 in
theorem takeDs_in (d : ByteArray) (hm : d.size ≤ maxLen) (W : World) :
    Calls Tryz.prog 14 #[.string d] W fun e w' => (∃ v er, e = .returned (.tuple #[v, .int .i64 er]) ∧ TakeDs d v er) ∧ Below W.heap.size W w' := by
  have HS := Hid.mk (split_all 43 d hm)
  have hmo : Tryz.prog.follows Departure.mixedOrders = true := by kernel_rfl
  have HN := Hid.mk number_in
  cases hsp : splitR 43 d with
  | none =>
    rw [hsp] at HS
    have HSP := Hid.mk hsp
    clear hsp
    go_enter Tryz.func14, Tryz.ntmps14
    go_wp2_with fail
    refine (HS.out _).mono ?_
    rintro e w1 ⟨rfl, hb1⟩
    have hbx := (hb1.block _ (by simp)).trans (heap_new W (.cells #[.int .i64 0, .int .i64 0, .int .i64 0, .string ⟨#[]⟩] 43))
    obtain ⟨a0, f0⟩ := cells_at (v := .int .i64 0) (j := 0) hbx rfl
    obtain ⟨a1, f1⟩ := cells_at (v := .int .i64 0) (j := 1) hbx rfl
    obtain ⟨a2, f2⟩ := cells_at (v := .int .i64 0) (j := 2) hbx rfl
    obtain ⟨a3, f3⟩ := cells_at (v := .string ⟨#[]⟩) (j := 3) hbx rfl
    have HBX := Hid.mk hbx
    clear hbx
    go_wp2
    have hfin : (((((w1.setCell ⟨W.heap.size, 0, none⟩ (.int .i64 0)).setCell ⟨W.heap.size, 1, none⟩ (.int .i64 0)).setCell ⟨W.heap.size, 2, none⟩ (.int .i64 0)).setCell ⟨W.heap.size, 3, none⟩ (.string ⟨#[]⟩))).heap[W.heap.size]? = some (.cells #[.int .i64 0, .int .i64 0, .int .i64 0, .string ⟨#[]⟩] 43 (0, 0)) := cells_put (j := 3) (cells_put (j := 2) (cells_put (j := 1) (cells_put (j := 0) (HBX.out) (.int .i64 0)) (.int .i64 0)) (.int .i64 0)) (.string ⟨#[]⟩)
    refine bodyPost_ret (v := .tuple #[.agg #[.int .i64 0, .int .i64 0, .int .i64 0, .string ⟨#[]⟩], .int .i64 6]) (by simp [results, Tryz.results14, go_sem, (cells_at (v := .int .i64 0) (j := 0) hfin rfl).1, (cells_at (v := .int .i64 0) (j := 1) hfin rfl).1, (cells_at (v := .int .i64 0) (j := 2) hfin rfl).1, (cells_at (v := .string ⟨#[]⟩) (j := 3) hfin rfl).1]) rfl ⟨⟨_, _, rfl, 0, 0, 0, ⟨#[]⟩, rfl, ⟨by decide, by decide, by decide, by decide⟩, (fun h => by cases h), .inr ⟨rfl, HSP.out, rfl⟩⟩, ?_⟩
    exact (((((((Below.refl _ _).alloc (Nat.le_refl _) _).trans (hb1.mono (by simp)))).setCell (p := ⟨W.heap.size, 0, none⟩) (Nat.le_refl _) _).setCell (p := ⟨W.heap.size, 1, none⟩) (Nat.le_refl _) _).setCell (p := ⟨W.heap.size, 2, none⟩) (Nat.le_refl _) _).setCell (p := ⟨W.heap.size, 3, none⟩) (Nat.le_refl _) _
  | some ps =>
    obtain ⟨p0, p1, p2, p3, hps⟩ : ∃ p0 p1 p2 p3, ps = [p0, p1, p2, p3] := by
      have hl := ((split_iff 43 d ps).1 hsp).2.2.2.len
      match ps, hl with
      | [p0, p1, p2, p3], _ => exact ⟨_, _, _, _, rfl⟩
    subst hps
    obtain ⟨hT, z0, z1, z2, z3⟩ := takeDs_ok d p0 p1 p2 p3 hsp
    rw [hsp] at HS
    clear hsp
    have HN0 := Hid.mk (number_in p0 z0)
    generalize numB p0.data.toList = m0 at HN0 hT
    have HN1 := Hid.mk (number_in p1 z1)
    generalize numB p1.data.toList = m1 at HN1 hT
    have HN2 := Hid.mk (number_in p2 z2)
    generalize numB p2.data.toList = m2 at HN2 hT
    have HT := Hid.mk hT
    clear hT
    go_enter Tryz.func14, Tryz.ntmps14
    go_wp2_with fail
    refine (HS.out _).mono ?_
    rintro e w1 ⟨⟨v, rfl, hrow⟩, hb1⟩
    obtain ⟨q, c, hv⟩ := row_as hrow
    subst hv
    obtain ⟨g, hq, _, _⟩ := row_cell hrow 0 (by simp)
    subst hq
    obtain ⟨_, _, hgb⟩ := row_frozen (j := 0) hrow (by simp)
    simp only [World.size_alloc] at hgb
    have hgne : g ≠ W.heap.size := by omega
    have hgne2 : W.heap.size ≠ g := by omega
    have r0 : w1.cell? ⟨g, 0, none⟩ = some (.string p0) := row_at hrow 0 p0 rfl
    have r1 : w1.cell? ⟨g, 1, none⟩ = some (.string p1) := row_at hrow 1 p1 rfl
    have r2 : w1.cell? ⟨g, 2, none⟩ = some (.string p2) := row_at hrow 2 p2 rfl
    have r3 : w1.cell? ⟨g, 3, none⟩ = some (.string p3) := row_at hrow 3 p3 rfl
    have hbx := (hb1.block _ (by simp)).trans (heap_new W (.cells #[.int .i64 0, .int .i64 0, .int .i64 0, .string ⟨#[]⟩] 43))
    obtain ⟨a0, f0⟩ := cells_at (v := .int .i64 0) (j := 0) hbx rfl
    obtain ⟨a1, f1⟩ := cells_at (v := .int .i64 0) (j := 1) hbx rfl
    obtain ⟨a2, f2⟩ := cells_at (v := .int .i64 0) (j := 2) hbx rfl
    obtain ⟨a3, f3⟩ := cells_at (v := .string ⟨#[]⟩) (j := 3) hbx rfl
    have HBX := Hid.mk hbx
    have mk0 : True := trivial
    clear hbx hrow
    go_wp2
    go_region_held3 (fun w' => w'.cell? ⟨g, 0, none⟩ = some (.string p0) ∧ w'.cell? ⟨g, 1, none⟩ = some (.string p1) ∧ w'.cell? ⟨g, 2, none⟩ = some (.string p2) ∧ w'.cell? ⟨g, 3, none⟩ = some (.string p3)) (first | ((repeat' apply And.intro) <;> assumption) | go_keep)
      (first | (have hck := mk2; clear hck; go_at_call 37; refine (HN2.out _).mono ?_; rintro e x3 ⟨rfl, rfl⟩; have mk3 : True := trivial) | (have hck := mk1; clear hck; go_at_call 37; refine (HN1.out _).mono ?_; rintro e x2 ⟨rfl, rfl⟩; have mk2 : True := trivial) | (have hck := mk0; clear hck; go_at_call 37; refine (HN0.out _).mono ?_; rintro e x1 ⟨rfl, rfl⟩; have mk1 : True := trivial))
    go_wp2
    have hfin : (((((w1.setCell ⟨W.heap.size, 0, none⟩ (.int .i64 ((m0 : Nat) : Int))).setCell ⟨W.heap.size, 1, none⟩ (.int .i64 ((m1 : Nat) : Int))).setCell ⟨W.heap.size, 2, none⟩ (.int .i64 ((m2 : Nat) : Int))).setCell ⟨W.heap.size, 3, none⟩ (.string p3))).drew.heap[W.heap.size]? = some (.cells #[.int .i64 ((m0 : Nat) : Int), .int .i64 ((m1 : Nat) : Int), .int .i64 ((m2 : Nat) : Int), .string p3] 43 (0, 0)) := cells_put (j := 3) (cells_put (j := 2) (cells_put (j := 1) (cells_put (j := 0) (HBX.out) (.int .i64 ((m0 : Nat) : Int))) (.int .i64 ((m1 : Nat) : Int))) (.int .i64 ((m2 : Nat) : Int))) (.string p3)
    refine bodyPost_ret (v := .tuple #[.agg #[.int .i64 ((m0 : Nat) : Int), .int .i64 ((m1 : Nat) : Int), .int .i64 ((m2 : Nat) : Int), .string p3], .int .i64 0]) (by simp [results, Tryz.results14, go_sem, (cells_at (v := .int .i64 ((m0 : Nat) : Int)) (j := 0) hfin rfl).1, (cells_at (v := .int .i64 ((m1 : Nat) : Int)) (j := 1) hfin rfl).1, (cells_at (v := .int .i64 ((m2 : Nat) : Int)) (j := 2) hfin rfl).1, (cells_at (v := .string p3) (j := 3) hfin rfl).1]) rfl ⟨⟨_, _, rfl, HT.out⟩, ?_⟩
    exact ((((((((Below.refl _ _).alloc (Nat.le_refl _) _).trans (hb1.mono (by simp)))).setCell (p := ⟨W.heap.size, 0, none⟩) (Nat.le_refl _) _).setCell (p := ⟨W.heap.size, 1, none⟩) (Nat.le_refl _) _).setCell (p := ⟨W.heap.size, 2, none⟩) (Nat.le_refl _) _).setCell (p := ⟨W.heap.size, 3, none⟩) (Nat.le_refl _) _).drew

end Go.Proofs.YtdhcbaennpediaaGreatDoor
