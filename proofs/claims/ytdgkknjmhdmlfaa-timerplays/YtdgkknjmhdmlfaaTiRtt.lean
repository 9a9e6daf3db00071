/- Layer 12: how long servers take. -/
import Derived.Deep.RegionWith
import Derived.Deep.RegionHeld3
import Derived.Deep.Cut
import Derived.Handy
import Derived.Test.YtdgkknjmhdmlfaaTiBase
namespace Go.Proofs.Ytdgkknjmhdmlfaa
set_option linter.unusedVariables false
open Go.RowKit

/-- from 0 to most. -/
def wn (n most : Int) : Int := if most < (if 0 > n then 0 else n) then most else (if 0 > n then 0 else n)
theorem wn_ge (n : Int) {most : Int} (h : 0 ≤ most) : 0 ≤ wn n most := by unfold wn; repeat' split <;> omega
theorem wn_le (n : Int) {most : Int} (h : 0 ≤ most) : wn n most ≤ most := by unfold wn; repeat' split <;> omega
theorem wn_id {n most : Int} (h : 0 ≤ n) (k : n ≤ most) : wn n most = n := by unfold wn; repeat' split <;> omega
abbrev rt (a b c : Int) : Value := .agg #[.int .i64 a, .int .i64 b, .int .i64 c]
/-- what is known behind a sample, of numbers that count. -/
def smpA (a b m : Int) : Int := if a = 0 ∧ b = 0 then m else a + (m - a).tdiv 8
def smpB (a b m : Int) : Int := if a = 0 ∧ b = 0 then m.tdiv 2 else b + ((if m - a < 0 then 0 - (m - a) else m - a) - b).tdiv 4
/-- one lost more. -/
def misC (c : Int) : Int := if 10 < c + 1 then 10 else c + 1
/-- how long to wait, ahead of what was lost. -/
def tm0 (a b : Int) : Int := if a = 0 ∧ b = 0 then 376 else a + 4 * b
def up50 (n : Int) : Int := if 50 > n then 50 else n
def dn12 (n : Int) : Int := if 12000 < n then 12000 else n
theorem heap_at1 (w : World) (o0 o1 o2 o3 : Obj) : ((((w.alloc o0).alloc o1).alloc o2).alloc o3).drew.heap[w.heap.size + 1]? = some o1 := by
  show ((((w.heap.push o0).push o1).push o2).push o3)[w.heap.size + 1]? = some o1
  rw [Array.getElem?_push, if_neg (by simp), Array.getElem?_push, if_neg (by simp), Array.getElem?_push, if_pos (by simp)]
theorem heap_at1b (w : World) (o0 o1 o2 o3 o4 : Obj) : (((((w.alloc o0).alloc o1).alloc o2).alloc o3).alloc o4).drew.heap[w.heap.size + 1]? = some o1 := by
  show (((((w.heap.push o0).push o1).push o2).push o3).push o4)[w.heap.size + 1]? = some o1
  rw [Array.getElem?_push, if_neg (by simp), Array.getElem?_push, if_neg (by simp), Array.getElem?_push, if_neg (by simp), Array.getElem?_push, if_pos (by simp)]
theorem wrap_id {x : Int} (h : -9223372036854775808 ≤ x) (k : x ≤ 9223372036854775807) : wrap64 x = x := by
  unfold wrap64
  omega
theorem two_pos (C : Nat) : 0 < (2 : Int) ^ C := Int.pow_pos (by decide)
theorem shl_w (C : Nat) (hC : C ≤ 10) (X : Int) (h0 : 0 ≤ X) (h1 : X ≤ 12000) : wrap64 (X * 2 ^ C) = X * 2 ^ C := by
  have h2 : (2 : Int) ^ C ≤ 1024 := by
    have h : (2 : Nat) ^ C ≤ 2 ^ 10 := Nat.pow_le_pow_right (by decide) hC
    have e : ((2 ^ C : Nat) : Int) = (2 : Int) ^ C := by simp
    rw [← e]
    have h' : (2 : Nat) ^ C ≤ 1024 := h
    omega
  have h3 := two_pos C
  have h4 : 0 ≤ X * 2 ^ C := Int.mul_nonneg h0 (by omega)
  have h5 : X * 2 ^ C ≤ 12000 * 1024 := Int.mul_le_mul h1 h2 (by omega) (by decide)
  exact wrap_id (by omega) (by omega)
theorem td8 (x : Int) : (0 ≤ x → 0 ≤ x.tdiv 8 ∧ x.tdiv 8 ≤ x) ∧ (x ≤ 0 → x ≤ x.tdiv 8 ∧ x.tdiv 8 ≤ 0) := by
  refine ⟨fun h => ?_, fun h => ?_⟩
  · rw [Int.tdiv_eq_ediv_of_nonneg h]; omega
  · have e : x.tdiv 8 = -((-x).tdiv 8) := by rw [Int.neg_tdiv]; omega
    rw [e, Int.tdiv_eq_ediv_of_nonneg (by omega)]; omega
theorem td4 (x : Int) : (0 ≤ x → 0 ≤ x.tdiv 4 ∧ x.tdiv 4 ≤ x) ∧ (x ≤ 0 → x ≤ x.tdiv 4 ∧ x.tdiv 4 ≤ 0) := by
  refine ⟨fun h => ?_, fun h => ?_⟩
  · rw [Int.tdiv_eq_ediv_of_nonneg h]; omega
  · have e : x.tdiv 4 = -((-x).tdiv 4) := by rw [Int.neg_tdiv]; omega
    rw [e, Int.tdiv_eq_ediv_of_nonneg (by omega)]; omega
/-- how long to wait. -/
def tmo (a b c : Int) : Int := dn12 (dn12 (up50 (tm0 a b)) * 2 ^ c.toNat)

theorem wn_in (w : World) (n most : Int) (hm : 0 ≤ most) :
    Calls Try.prog 37 #[.int .i64 n, .int .i64 most] w fun e w' => e = .returned (.int .i64 (wn n most)) ∧ w' = w := by
  go_enter Try.func37, Try.ntmps37
  go_wp2
  all_goals
    go_ret
    refine ⟨?_, rfl⟩
    congr 2
    unfold wn
    repeat' split
    all_goals first | rfl | omega
theorem sizeRtt : (Try.prog.info? 46).map (·.size) = some 3 := by kernel_rfl
theorem results_rtt {fn : Func} {p : Tmp} (h : fn.results = #[.cell p 46]) {tmps : Array Value} {W : World} {b : Nat} {x y z : Value} (hp : tmps.getD p undef = .pointer (some ⟨b, 0, none⟩)) (hb : W.heap[b]? = some (.cells #[x, y, z] 46 (0, 0))) : (results fn tmps).run Try.prog W = .ok (.agg #[x, y, z]) W := by
  have hp' : tmps[p]?.getD undef = .pointer (some ⟨b, 0, none⟩) := by simpa using hp
  have hl : (loadVar 46 ⟨b, 0, none⟩).run Try.prog W = .ok (.agg #[x, y, z]) W := run_loadVar_row W b _ _ _ (0, 0) _ hb Try.underlying46 rfl sizeRtt
  simp only [results, h]
  simp [hp', asAddr, hl]

set_option maxRecDepth 100000 in
set_option maxHeartbeats 4000000 in
theorem rwithin_in (w : World) (a b c : Int) :
    Calls Try.prog 36 #[rt a b c] w fun e w' => e = .returned (rt (wn a 1000000) (wn b 1000000) (wn c 10)) ∧ w' = ((w.alloc (.cells #[.int .i64 a, .int .i64 b, .int .i64 c] 46)).alloc (.cells #[.int .i64 (wn a 1000000), .int .i64 (wn b 1000000), .int .i64 (wn c 10)] 46)).drew := by
  obtain ⟨A1, hA⟩ : ∃ x, wn a 1000000 = x := ⟨_, rfl⟩
  obtain ⟨B1, hB⟩ : ∃ x, wn b 1000000 = x := ⟨_, rfl⟩
  obtain ⟨C1, hC⟩ : ∃ x, wn c 10 = x := ⟨_, rfl⟩
  rw [hA, hB, hC]
  have H1 : Hid (∀ w, Calls Try.prog 37 #[.int .i64 a, .int .i64 1000000] w fun e w' => e = .returned (.int .i64 A1) ∧ w' = w) := fun w => by rw [← hA]; exact wn_in w a _ (by decide)
  have H2 : Hid (∀ w, Calls Try.prog 37 #[.int .i64 b, .int .i64 1000000] w fun e w' => e = .returned (.int .i64 B1) ∧ w' = w) := fun w => by rw [← hB]; exact wn_in w b _ (by decide)
  have H3 : Hid (∀ w, Calls Try.prog 37 #[.int .i64 c, .int .i64 10] w fun e w' => e = .returned (.int .i64 C1) ∧ w' = w) := fun w => by rw [← hC]; exact wn_in w c _ (by decide)
  clear hA hB hC
  go_enter Try.func36, Try.ntmps36
  go_wp2
  go_region_held3 (fun u => u.cell? ⟨w.heap.size, 0, none⟩ = some (.int .i64 a) ∧ u.cell? ⟨w.heap.size, 1, none⟩ = some (.int .i64 b) ∧ u.cell? ⟨w.heap.size, 2, none⟩ = some (.int .i64 c)) (first | assumption | go_keep)
    (first
    | (go_at_call 37; refine (H1.out _).mono ?_; rintro e w' ⟨rfl, rfl⟩)
    | (go_at_call 37; refine (H2.out _).mono ?_; rintro e w' ⟨rfl, rfl⟩)
    | (go_at_call 37; refine (H3.out _).mono ?_; rintro e w' ⟨rfl, rfl⟩))
  go_wp2
  refine bodyPost_ret (results_rtt Try.results36 rfl ?_) rfl ⟨rfl, rfl⟩
  have := heap_alloc_last (w.alloc (.cells #[.int .i64 a, .int .i64 b, .int .i64 c] 46)) (.cells #[.int .i64 A1, .int .i64 B1, .int .i64 C1] 46 (0, 0))
  rw [show (w.alloc (.cells #[.int .i64 a, .int .i64 b, .int .i64 c] 46)).heap.size = w.heap.size + 1 by simp] at this
  exact this

theorem unknown_in (w : World) (a b c : Int) :
    Calls Try.prog 38 #[rt a b c] w fun e w' => e = .returned (.bool (decide (a = 0 ∧ b = 0))) ∧ w' = w.alloc (.cells #[.int .i64 a, .int .i64 b, .int .i64 c] 46) := by
  by_cases ha : a = 0
  · subst ha
    have e0 : decide ((0 : Int) = 0 ∧ b = 0) = (b == 0) := by by_cases hb : b = 0 <;> simp [hb]
    rw [e0]
    go_enter Try.func38, Try.ntmps38
    go_wp2
    go_ret
    exact ⟨rfl, rfl⟩
  · have e0 : decide (a = 0 ∧ b = 0) = false := by simp [ha]
    have e1 : (a == 0) = false := by simp [ha]
    rw [e0]
    go_enter Try.func38, Try.ntmps38
    go_wp2
    go_ret
    exact ⟨rfl, rfl⟩

theorem miss_in (w : World) (a b c : Int) :
    Calls Try.prog 22 #[rt a b c] w fun e w' => e = .returned (rt (wn a 1000000) (wn b 1000000) (misC (wn c 10))) ∧ Below w.heap.size w w' := by
  have HW := Hid.mk (fun w => rwithin_in w a b c)
  have hc0 := wn_ge c (most := 10) (by decide)
  have hc1 := wn_le c (most := 10) (by decide)
  obtain ⟨A1, hA⟩ : ∃ x, wn a 1000000 = x := ⟨_, rfl⟩
  obtain ⟨B1, hB⟩ : ∃ x, wn b 1000000 = x := ⟨_, rfl⟩
  obtain ⟨C1, hC⟩ : ∃ x, wn c 10 = x := ⟨_, rfl⟩
  rw [hA, hB, hC] at HW ⊢
  rw [hC] at hc0 hc1
  clear hA hB hC
  go_enter Try.func22, Try.ntmps22
  go_wp2_with fail
  refine (HW.out _).mono ?_
  rintro e w1 ⟨rfl, rfl⟩
  go_wp2
  all_goals
    refine bodyPost_ret (results_rtt Try.results22 rfl (heap_at1 w _ _ _ _)) rfl ⟨?_, by go_grown⟩
    congr 5
    unfold misC
    split <;> first | rfl | omega

theorem smp_yes {a b : Int} (h : a = 0 ∧ b = 0) (m : Int) : smpA a b m = m ∧ smpB a b m = m.tdiv 2 := ⟨if_pos h, if_pos h⟩
theorem smp_no {a b : Int} (h : ¬ (a = 0 ∧ b = 0)) (m : Int) : smpA a b m = a + (m - a).tdiv 8 ∧ smpB a b m = b + ((if m - a < 0 then 0 - (m - a) else m - a) - b).tdiv 4 := ⟨if_neg h, if_neg h⟩

set_option maxRecDepth 100000 in
set_option maxHeartbeats 4000000 in
theorem sample_in (w : World) (a b c ms : Int) :
    Calls Try.prog 20 #[rt a b c, .int .i64 ms] w fun e w' => e = .returned (rt (smpA (wn a 1000000) (wn b 1000000) (wn ms 1000000)) (smpB (wn a 1000000) (wn b 1000000) (wn ms 1000000)) 0) ∧ Below w.heap.size w w' := by
  have HW := Hid.mk (fun w => rwithin_in w a b c)
  have HM := Hid.mk (fun w => wn_in w ms 1000000 (by decide))
  have ha0 := wn_ge a (most := 1000000) (by decide)
  have ha1 := wn_le a (most := 1000000) (by decide)
  have hb0 := wn_ge b (most := 1000000) (by decide)
  have hb1 := wn_le b (most := 1000000) (by decide)
  have hm0 := wn_ge ms (most := 1000000) (by decide)
  have hm1 := wn_le ms (most := 1000000) (by decide)
  obtain ⟨A1, hA⟩ : ∃ x, wn a 1000000 = x := ⟨_, rfl⟩
  obtain ⟨B1, hB⟩ : ∃ x, wn b 1000000 = x := ⟨_, rfl⟩
  obtain ⟨C1, hC⟩ : ∃ x, wn c 10 = x := ⟨_, rfl⟩
  obtain ⟨M1, hM⟩ : ∃ x, wn ms 1000000 = x := ⟨_, rfl⟩
  rw [hA, hB, hC] at HW
  rw [hM] at HM
  rw [hA, hB, hM]
  rw [hA] at ha0 ha1
  rw [hB] at hb0 hb1
  rw [hM] at hm0 hm1
  clear hA hB hC hM
  have HU := Hid.mk (fun w => unknown_in w A1 B1 C1)
  by_cases hun : A1 = 0 ∧ B1 = 0
  · have hd : decide (A1 = 0 ∧ B1 = 0) = true := decide_eq_true hun
    rw [hd] at HU
    rw [(smp_yes hun M1).1, (smp_yes hun M1).2]
    clear hd hun
    go_enter Try.func20, Try.ntmps20
    go_wp2_with fail
    refine (HW.out _).mono ?_
    rintro e w1 ⟨rfl, rfl⟩
    go_wp2_with fail
    refine (HM.out _).mono ?_
    rintro e w1 ⟨rfl, rfl⟩
    go_wp2_with fail
    refine (HU.out _).mono ?_
    rintro e w1 ⟨rfl, rfl⟩
    go_wp2
    refine bodyPost_ret (results_rtt Try.results20 rfl (heap_at1b w _ _ _ _ _)) rfl ⟨?_, by go_grown⟩
    rw [Int.tdiv_eq_ediv_of_nonneg hm0]
  · have h8a : -1000000 ≤ (M1 - A1).tdiv 8 := by have := td8 (M1 - A1); omega
    have h8b : (M1 - A1).tdiv 8 ≤ 1000000 := by have := td8 (M1 - A1); omega
    have h4a : -2000000 ≤ (M1 - A1 - B1).tdiv 4 := by have := td4 (M1 - A1 - B1); omega
    have h4b : (M1 - A1 - B1).tdiv 4 ≤ 2000000 := by have := td4 (M1 - A1 - B1); omega
    have h4c : -2000000 ≤ (-(M1 - A1) - B1).tdiv 4 := by have := td4 (-(M1 - A1) - B1); omega
    have h4d : (-(M1 - A1) - B1).tdiv 4 ≤ 2000000 := by have := td4 (-(M1 - A1) - B1); omega
    have hd : decide (A1 = 0 ∧ B1 = 0) = false := decide_eq_false hun
    rw [hd] at HU
    rw [(smp_no hun M1).1, (smp_no hun M1).2]
    clear hd hun
    go_enter Try.func20, Try.ntmps20
    go_wp2_with fail
    refine (HW.out _).mono ?_
    rintro e w1 ⟨rfl, rfl⟩
    go_wp2_with fail
    refine (HM.out _).mono ?_
    rintro e w1 ⟨rfl, rfl⟩
    go_wp2_with fail
    refine (HU.out _).mono ?_
    rintro e w1 ⟨rfl, rfl⟩
    go_wp2
    all_goals
      refine bodyPost_ret (results_rtt Try.results20 rfl (heap_at1b w _ _ _ _ _)) rfl ⟨?_, by go_grown⟩
      rw [wrap_id (by omega) (by omega)]

set_option maxRecDepth 100000 in
set_option maxHeartbeats 4000000 in
theorem timeout_in (w : World) (a b c : Int) :
    Calls Try.prog 24 #[rt a b c] w fun e w' => e = .returned (.int .i64 (tmo (wn a 1000000) (wn b 1000000) (wn c 10))) ∧ Below w.heap.size w w' := by
  have HW := Hid.mk (fun w => rwithin_in w a b c)
  have ha0 := wn_ge a (most := 1000000) (by decide)
  have ha1 := wn_le a (most := 1000000) (by decide)
  have hb0 := wn_ge b (most := 1000000) (by decide)
  have hb1 := wn_le b (most := 1000000) (by decide)
  have hc0 := wn_ge c (most := 10) (by decide)
  have hc1 := wn_le c (most := 10) (by decide)
  obtain ⟨A1, hA⟩ : ∃ x, wn a 1000000 = x := ⟨_, rfl⟩
  obtain ⟨B1, hB⟩ : ∃ x, wn b 1000000 = x := ⟨_, rfl⟩
  obtain ⟨C1, hC⟩ : ∃ x, wn c 10 = x := ⟨_, rfl⟩
  rw [hA, hB, hC] at HW ⊢
  rw [hA] at ha0 ha1
  rw [hB] at hb0 hb1
  rw [hC] at hc0 hc1
  clear hA hB hC
  have HU := Hid.mk (fun w => unknown_in w A1 B1 C1)
  obtain ⟨C, rfl⟩ : ∃ C : Nat, C1 = (C : Int) := ⟨C1.toNat, by omega⟩
  obtain ⟨R, hR⟩ : ∃ R, tmo A1 B1 (C : Int) = R := ⟨_, rfl⟩
  rw [hR]
  have HR := Hid.mk hR
  have Hw := Hid.mk (shl_w C (by omega))
  have hsum : A1 + 4 * B1 ≤ 5000000 := by omega
  clear hR
  by_cases hun : A1 = 0 ∧ B1 = 0
  · have hd : decide (A1 = 0 ∧ B1 = 0) = true := decide_eq_true hun
    rw [hd] at HU
    have HUn := Hid.mk hun
    clear hd hun
    go_enter Try.func24, Try.ntmps24
    go_wp2_with fail
    refine (HW.out _).mono ?_
    rintro e w1 ⟨rfl, rfl⟩
    go_wp2_with fail
    refine (HU.out _).mono ?_
    rintro e w1 ⟨rfl, rfl⟩
    go_wp2
    all_goals
      go_ret
      refine ⟨?_, by go_grown⟩
      have hw := Hw.out
      have hun := HUn.out
      have hp := two_pos C
      refine congrArg (fun x => Ending.returned (Value.int .i64 x)) ?_
      rw [← HR.out]
      show _ = tmo A1 B1 (C : Int)
      simp (disch := omega) only [hw] at *
      unfold tmo dn12 up50 tm0
      simp only [Int.toNat_natCast]
      first | rw [if_pos hun] | rw [if_neg hun]
      repeat' split
      all_goals first | omega | rfl | (simp_all; done) | (simp_all; omega)
  · have hd : decide (A1 = 0 ∧ B1 = 0) = false := decide_eq_false hun
    rw [hd] at HU
    have HUn := Hid.mk hun
    clear hd hun
    go_enter Try.func24, Try.ntmps24
    go_wp2_with fail
    refine (HW.out _).mono ?_
    rintro e w1 ⟨rfl, rfl⟩
    go_wp2_with fail
    refine (HU.out _).mono ?_
    rintro e w1 ⟨rfl, rfl⟩
    go_wp2
    all_goals
      go_ret
      refine ⟨?_, by go_grown⟩
      have hw := Hw.out
      have hun := HUn.out
      have hp := two_pos C
      refine congrArg (fun x => Ending.returned (Value.int .i64 x)) ?_
      rw [← HR.out]
      show _ = tmo A1 B1 (C : Int)
      simp (disch := omega) only [hw] at *
      unfold tmo dn12 up50 tm0
      simp only [Int.toNat_natCast]
      first | rw [if_pos hun] | rw [if_neg hun]
      repeat' split
      all_goals first | omega | rfl | (simp_all; done) | (simp_all; omega)
end Go.Proofs.Ytdgkknjmhdmlfaa
