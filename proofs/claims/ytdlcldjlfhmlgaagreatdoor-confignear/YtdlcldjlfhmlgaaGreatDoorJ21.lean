/- Texts of this proof, joined: AhW, AhFi, AhEq, AhRp. -/
import Derived.Handy
import Derived.BigQuiet
import Derived.BigRegion
import Derived.Deep.RegionWith
import Derived.Deep.RegionHeld3
import Derived.Deep.Cut
import Derived.Test.YtdlcldjlfhmlgaaGreatDoorJ20
import Derived.ChangeKeysEq
set_option linter.unusedVariables false
set_option linter.unusedSimpArgs false
/- Layer 13: Right, width, cleared, first, piece. -/
namespace Go.Proofs.YtdlcldjlfhmlgaaGreatDoor.A
open Go.RowKit
theorem Hid.mk {p : Prop} (h : p) : Hid p := h
abbrev pt (b : Nat) : Value := .pointer (some ⟨b, 0, none⟩)
abbrev adO (v : Bool) (h l : Nat) : Obj := .cells #[.bool v, .int .u64 h, .int .u64 l] 66 (0, 0)
abbrev adV (v : Bool) (h l : Nat) : Value := .agg #[.bool v, .int .u64 h, .int .u64 l]
theorem heap_alloc_last (w : World) (o : Obj) : (w.alloc o).heap[w.heap.size]? = some o := by
 show (w.heap.push o)[w.heap.size]? = _
 simp
theorem cell_of_heap {w : World} {b i : Nat} {c : Array Value} {t : TypeId} {f : Nat × Nat} {v : Value} (h : w.heap[b]? = some (.cells c t f)) (hi : c[i]? = some v) : w.cell? ⟨b, i, none⟩ = some v := by
 unfold World.cell?
 rw [show (⟨b, i, none⟩ : Addr).block = b from rfl, h]
 simpa using hi
set_option maxRecDepth 100000 in
theorem right_in (w : World) (v : Bool) (h l : Nat) :
  Calls Tryz.prog 137 #[adV v h l] w fun e w' => e = .returned (.bool (decide (Ad.right ⟨v, h, l⟩))) ∧ w' = w.alloc (adO v h l) := by
 cases v with
 | true =>
  go_enter Tryz.func137, Tryz.ntmps137
  go_wp2
  go_ret
  exact ⟨by simp [Ad.right], rfl⟩
 | false =>
  by_cases h0 : h = 0
  ·subst h0
   go_enter Tryz.func137, Tryz.ntmps137
   go_wp2
   go_ret
   have e : decide (Ad.right ⟨false, 0, l⟩) = ((l : Int) / 4294967296 == 0) := by
    simp only [Ad.right, Bool.false_eq_true, false_or, true_and, Nat.reducePow]
    rw [Bool.eq_iff_iff]
    simp only [beq_iff_eq, decide_eq_true_eq]
    omega
   exact ⟨by rw [e]; rfl, rfl⟩
  ·go_enter Tryz.func137, Tryz.ntmps137
   go_wp2
   go_ret
   exact ⟨by simp [Ad.right, h0], rfl⟩
set_option maxRecDepth 100000 in
theorem width_in (w : World) (v : Bool) (h l : Nat) :
  Calls Tryz.prog 153 #[adV v h l] w fun e w' => e = .returned (.int .i64 (Ad.wd ⟨v, h, l⟩ : Nat)) ∧ w' = w.alloc (adO v h l) := by
 cases v with
 | true =>
  go_enter Tryz.func153, Tryz.ntmps153
  go_wp2
  go_ret
  exact ⟨rfl, rfl⟩
 | false =>
  go_enter Tryz.func153, Tryz.ntmps153
  go_wp2
  go_ret
  exact ⟨rfl, rfl⟩
theorem pow_min (x k : Nat) (hx : x < 2 ^ 64) : x / 2 ^ min k 64 * 2 ^ min k 64 = clr x k := by
 by_cases h : k ≤ 64
 ·rw [Nat.min_eq_left h]; rfl
 ·rw [Nat.min_eq_right (by omega), Nat.div_eq_of_lt hx, clr_big (Nat.lt_of_lt_of_le hx (Nat.pow_le_pow_right (by decide) (by omega)))]
  try simp
theorem wrapU {x : Nat} (h : x < 2 ^ 64) : IntKind.u64.wrap (x : Int) = x := by
 rw [IntKind.wrap_u64]
 omega
theorem wrapI {x : Int} (h1 : -9223372036854775808 ≤ x) (h2 : x ≤ 9223372036854775807) : IntKind.i64.wrap x = x := by
 rw [IntKind.wrap_i64]
 omega
theorem clr_int (x k : Nat) (hx : x < 2 ^ 64) : IntKind.u64.wrap ((x : Int) / 2 ^ min k 64 * 2 ^ min k 64) = ((clr x k : Nat) : Int) := by
 have e : ((x : Int) / 2 ^ min k 64 * 2 ^ min k 64) = ((x / 2 ^ min k 64 * 2 ^ min k 64 : Nat) : Int) := by
  rw [Int.natCast_mul, Int.natCast_ediv, Int.natCast_pow]; try rfl
 rw [e, pow_min x k hx, wrapU (Nat.lt_of_le_of_lt (clr_le _ _) hx)]
set_option maxRecDepth 100000 in
theorem cleared_in (w : World) (x k : Nat) (hx : x < 2 ^ 64) (hk : k ≤ 128) :
  Calls Tryz.prog 174 #[.int .u64 (x : Int), .int .i64 (k : Int)] w fun e w' => e = .returned (.int .u64 ((clr x k : Nat) : Int)) ∧ w' = w := by
 go_enter Tryz.func174, Tryz.ntmps174
 go_wp2
 go_ret
 exact ⟨by rw [clr_int x k hx]; rfl, rfl⟩
theorem sizeAd : (Tryz.prog.info? 66).map (·.size) = some 3 := by kernel_rfl
theorem results_ad {fn : Func} {p : Tmp} (h : fn.results = #[.cell p 66]) {tmps : Array Value} {W : World} {b : Nat} {x y z : Value} (hp : tmps.getD p undef = .pointer (some ⟨b, 0, none⟩)) (hb : W.heap[b]? = some (.cells #[x, y, z] 66 (0, 0))) : (results fn tmps).run Tryz.prog W = .ok (.agg #[x, y, z]) W := by
 have hp' : tmps[p]?.getD undef = .pointer (some ⟨b, 0, none⟩) := by simpa using hp
 have hl : (loadVar 66 ⟨b, 0, none⟩).run Tryz.prog W = .ok (.agg #[x, y, z]) W := run_loadVar_row W b _ _ _ (0, 0) _ hb Tryz.underlying66 rfl sizeAd
 simp only [results, h]
 simp [hp', asAddr, hl]
theorem heap_mid (w : World) (a b c : Obj) : (((w.alloc a).alloc b).alloc c).drew.heap[w.heap.size + 1]? = some b := by
 show (((w.heap.push a).push b).push c)[w.heap.size + 1]? = _
 simp [Array.getElem_push]
end Go.Proofs.YtdlcldjlfhmlgaaGreatDoor.A
/- Layer 13: first. -/
namespace Go.Proofs.YtdlcldjlfhmlgaaGreatDoor.A
open Go.RowKit
set_option maxRecDepth 100000 in
set_option maxHeartbeats 2000000 in
theorem first_in (w : World) (v : Bool) (h l n : Nat) (hh : h < 2 ^ 64) (hl : l < 2 ^ 64) (hn : n ≤ Ad.wd ⟨v, h, l⟩) :
  Calls Tryz.prog 154 #[adV v h l, .int .i64 (n : Int)] w fun e w' => e = .returned (adV v (clr h (Ad.wd ⟨v, h, l⟩ - n - 64)) (clr l (Ad.wd ⟨v, h, l⟩ - n))) ∧ Below w.heap.size w w' := by
 have hwd : Ad.wd ⟨v, h, l⟩ ≤ 128 := by unfold Ad.wd; split <;> omega
 have HW := Hid.mk (fun w => width_in w v h l)
 generalize Ad.wd ⟨v, h, l⟩ = W at *
 obtain ⟨R, hR⟩ : ∃ R, W - n = R := ⟨_, rfl⟩
 rw [hR]
 obtain rfl : W = R + n := by omega
 have hR8 : R ≤ 128 := by omega
 have H1 : Hid (∀ (w : World), Calls Tryz.prog 174 #[.int .u64 (h : Int), .int .i64 ((R - 64 : Nat) : Int)] w fun e w' => e = .returned (.int .u64 ((clr h (R - 64) : Nat) : Int)) ∧ w' = w) := fun w => cleared_in w h (R - 64) hh (by omega)
 have H2 : Hid (∀ (w : World), Calls Tryz.prog 174 #[.int .u64 (l : Int), .int .i64 (R : Int)] w fun e w' => e = .returned (.int .u64 ((clr l R : Nat) : Int)) ∧ w' = w) := fun w => cleared_in w l R hl (by omega)
 generalize clr h (R - 64) = A at *
 generalize clr l R = B at *
 clear hn hwd hR hh hl
 by_cases h64 : 64 ≤ R
 ·obtain ⟨D, hD⟩ : ∃ D, R - 64 = D := ⟨_, rfl⟩
  rw [hD] at H1
  have hw : IntKind.i64.wrap ((R : Int) - 64) = D := by rw [wrapI (by omega) (by omega)]; omega
  have hnl : ¬ ((D : Int) < 0) := by omega
  clear hD h64
  go_enter Tryz.func154, Tryz.ntmps154
  go_wp2_with fail
  refine (HW.out _).mono ?_
  rintro e w1 ⟨rfl, rfl⟩
  go_upto_region 2 with fail
  go_region_held3 (fun u => u.cell? ⟨w.heap.size, 0, none⟩ = some (.bool v) ∧ u.cell? ⟨w.heap.size, 1, none⟩ = some (.int .u64 (h : Int)) ∧ u.cell? ⟨w.heap.size, 2, none⟩ = some (.int .u64 (l : Int))) (first | assumption | go_keep)
   (first
   | (go_at_call 174; refine (H1.out _).mono ?_; rintro e w' ⟨rfl, rfl⟩)
   | (go_at_call 174; refine (H2.out _).mono ?_; rintro e w' ⟨rfl, rfl⟩))
  go_wp2
  refine bodyPost_ret (results_ad Tryz.results154 rfl (heap_mid ..)) rfl ⟨rfl, by go_grown⟩
 ·have H0 : Hid (∀ (w : World), Calls Tryz.prog 174 #[.int .u64 (h : Int), .int .i64 0] w fun e w' => e = .returned (.int .u64 ((A : Nat) : Int)) ∧ w' = w) := by rw [show R - 64 = 0 by omega] at H1; exact H1
  have H1 := H0
  have hw : IntKind.i64.wrap ((R : Int) - 64) = (R : Int) - 64 := wrapI (by omega) (by omega)
  have hnl : (R : Int) - 64 < 0 := by omega
  have hmx : max ((R : Int) - 64) 0 = 0 := by omega
  clear h64 H0
  go_enter Tryz.func154, Tryz.ntmps154
  go_wp2_with fail
  refine (HW.out _).mono ?_
  rintro e w1 ⟨rfl, rfl⟩
  go_upto_region 2 with fail
  go_region_held3 (fun u => u.cell? ⟨w.heap.size, 0, none⟩ = some (.bool v) ∧ u.cell? ⟨w.heap.size, 1, none⟩ = some (.int .u64 (h : Int)) ∧ u.cell? ⟨w.heap.size, 2, none⟩ = some (.int .u64 (l : Int))) (first | assumption | go_keep)
   (first
   | (go_at_call 174; refine (H1.out _).mono ?_; rintro e w' ⟨rfl, rfl⟩)
   | (go_at_call 174; refine (H2.out _).mono ?_; rintro e w' ⟨rfl, rfl⟩))
  go_wp2
  refine bodyPost_ret (results_ad Tryz.results154 rfl (heap_mid ..)) rfl ⟨rfl, by go_grown⟩
end Go.Proofs.YtdlcldjlfhmlgaaGreatDoor.A
/- Layer 13: addresses and prefixes compared. -/
namespace Go.Proofs.YtdlcldjlfhmlgaaGreatDoor.A
open Go.RowKit
abbrev pfV (v : Bool) (h l : Nat) (n : Int) : Value := .agg #[.bool v, .int .u64 h, .int .u64 l, .int .i64 n]
abbrev rlV (v : Bool) (h l : Nat) (n act : Int) : Value := .agg #[.bool v, .int .u64 h, .int .u64 l, .int .i64 n, .int .i64 act]
theorem eqFields_cons {d : Nat} {xs ys : Array Value} {f : Field} {fs : List Field} (h : f.name ≠ "_") : Op.eqFields d xs ys (f :: fs) = (do
  let a ← part f.type xs f.offset
  let b ← part f.type ys f.offset
  let r ← Op.equalIn d f.type a b
  if (!r) = true then pure false else Op.eqFields d xs ys fs) := by rw [Op.eqFields, if_pos h]
theorem bq (a b : Nat) : ((a : Int) == (b : Int)) = decide (a = b) := by
 rw [Bool.eq_iff_iff]
 simp only [beq_iff_eq, decide_eq_true_eq]
 omega
theorem adEq_run (d : Nat) (W : World) (v v' : Bool) (h l h' l' : Nat) : (Op.equalIn (d + 3) 66 (adV v h l) (adV v' h' l')).run Tryz.prog W = .ok (decide ((⟨v, h, l⟩ : Ad) = ⟨v', h', l'⟩)) W := by
 have hu : Tryz.prog.underlying 66 = some (.struct (Tryz.prog.fieldsOf 66)) := by kernel_rfl
 have hst : Tryz.prog.stoodInHeld 66 = false := by kernel_rfl
 obtain ⟨f1, f2, f3, hf, n1, n2, n3, t1, t2, t3, o1, o2, o3⟩ : ∃ f1 f2 f3 : Field, (Tryz.prog.fieldsOf 66).toList = [f1, f2, f3] ∧ f1.name = "V6" ∧ f2.name = "Hi" ∧ f3.name = "Lo" ∧ f1.type = 4 ∧ f2.type = 64 ∧ f3.type = 64 ∧ f1.offset = 0 ∧ f2.offset = 1 ∧ f3.offset = 2 :=
  ⟨(Tryz.prog.fieldsOf 66)[0]!, (Tryz.prog.fieldsOf 66)[1]!, (Tryz.prog.fieldsOf 66)[2]!, by kernel_rfl, by kernel_rfl, by kernel_rfl, by kernel_rfl, by kernel_rfl, by kernel_rfl, by kernel_rfl, by kernel_rfl, by kernel_rfl, by kernel_rfl⟩
 replace n1 : f1.name ≠ "_" := by rw [n1]; simp
 replace n2 : f2.name ≠ "_" := by rw [n2]; simp
 replace n3 : f3.name ≠ "_" := by rw [n3]; simp
 have ub : Tryz.prog.underlying 4 = some .bool := by kernel_rfl
 have uu : Tryz.prog.underlying 64 = some (.int .u64) := by kernel_rfl
 have pb : Tryz.prog.plainKey 4 = true := by kernel_rfl
 have pu : Tryz.prog.plainKey 64 = true := by kernel_rfl
 have q0 : ∀ v h l, (part 4 #[.bool v, .int .u64 ((h : Nat) : Int), .int .u64 ((l : Nat) : Int)] 0).run Tryz.prog W = .ok (.bool v) W := fun v h l => run_part_plain W pb rfl
 have q1 : ∀ v h l, (part 64 #[.bool v, .int .u64 ((h : Nat) : Int), .int .u64 ((l : Nat) : Int)] 1).run Tryz.prog W = .ok (.int .u64 h) W := fun v h l => run_part_plain W pu rfl
 have q2 : ∀ v h l, (part 64 #[.bool v, .int .u64 ((h : Nat) : Int), .int .u64 ((l : Nat) : Int)] 2).run Tryz.prog W = .ok (.int .u64 l) W := fun v h l => run_part_plain W pu rfl
 have hd : decide ((⟨v, h, l⟩ : Ad) = ⟨v', h', l'⟩) = ((v == v') && (decide (h = h') && decide (l = l'))) := by
  rw [Bool.eq_iff_iff]
  simp
 rw [hd, run_equalIn_struct W (d + 2) _ _ _ hu hst, hf]
 rw [eqFields_cons n1, t1, o1, Sem.run_bind, q0, Result.andThen_ok, Sem.run_bind, q0, Result.andThen_ok, Sem.run_bind, run_equalIn_bool W (d + 1) _ _ _ ub, Result.andThen_ok]
 by_cases e1 : v = v'
 ·subst e1
  rw [beq_self_eq_true, if_neg (by simp), eqFields_cons n2, t2, o2, Sem.run_bind, q1, Result.andThen_ok, Sem.run_bind, q1, Result.andThen_ok, Sem.run_bind, run_equalIn_int W (d + 1) _ .u64 .u64 _ _ uu, Result.andThen_ok, bq]
  by_cases e2 : h = h'
  ·rw [decide_eq_true e2, if_neg (by simp), eqFields_cons n3, t3, o3, Sem.run_bind, q2, Result.andThen_ok, Sem.run_bind, q2, Result.andThen_ok, Sem.run_bind, run_equalIn_int W (d + 1) _ .u64 .u64 _ _ uu, Result.andThen_ok, bq]
   by_cases e3 : l = l'
   ·rw [decide_eq_true e3, if_neg (by simp), Op.eqFields, Sem.run_pure]; rfl
   ·rw [decide_eq_false e3, if_pos (by simp), Sem.run_pure]; rfl
  ·rw [decide_eq_false e2, if_pos (by simp), Sem.run_pure]; rfl
 ·rw [beq_eq_false_iff_ne.2 e1, if_pos (by simp), Sem.run_pure]; rfl
theorem eqAd (W : World) (v v' : Bool) (h l h' l' : Nat) : (binOp .eql 66 (adV v h l) (adV v' h' l')).run Tryz.prog W = .ok (.bool (decide ((⟨v, h, l⟩ : Ad) = ⟨v', h', l'⟩))) W := by
 rw [run_eql_struct, adEq_run 9997 W]
 rfl
theorem pfEq_run (d : Nat) (W : World) (v v' : Bool) (h l h' l' : Nat) (n n' : Int) : (Op.equalIn (d + 4) 75 (pfV v h l n) (pfV v' h' l' n')).run Tryz.prog W = .ok (decide ((⟨v, h, l⟩ : Ad) = ⟨v', h', l'⟩ ∧ n = n')) W := by
 have hu : Tryz.prog.underlying 75 = some (.struct (Tryz.prog.fieldsOf 75)) := by kernel_rfl
 have hst : Tryz.prog.stoodInHeld 75 = false := by kernel_rfl
 obtain ⟨f1, f2, hf, n1, n2, t1, t2, o1, o2⟩ : ∃ f1 f2 : Field, (Tryz.prog.fieldsOf 75).toList = [f1, f2] ∧ f1.name = "Addr" ∧ f2.name = "Bits" ∧ f1.type = 66 ∧ f2.type = 3 ∧ f1.offset = 0 ∧ f2.offset = 3 :=
  ⟨(Tryz.prog.fieldsOf 75)[0]!, (Tryz.prog.fieldsOf 75)[1]!, by kernel_rfl, by kernel_rfl, by kernel_rfl, by kernel_rfl, by kernel_rfl, by kernel_rfl, by kernel_rfl⟩
 replace n1 : f1.name ≠ "_" := by rw [n1]; simp
 replace n2 : f2.name ≠ "_" := by rw [n2]; simp
 have ui : Tryz.prog.underlying 3 = some (.int .i64) := by kernel_rfl
 have pi : Tryz.prog.plainKey 3 = true := by kernel_rfl
 have ua : Tryz.prog.underlying 66 = some (.struct (Tryz.prog.fieldsOf 66)) := by kernel_rfl
 have sa : (sizeOf 66).run Tryz.prog W = .ok 3 W := by kernel_rfl
 have q0 : ∀ v h l n, (part 66 #[.bool v, .int .u64 ((h : Nat) : Int), .int .u64 ((l : Nat) : Int), .int .i64 n] 0).run Tryz.prog W = .ok (adV v h l) W := fun v h l n => by
  unfold part isAgg
  simp only [Sem.run_bind, run_underlying ua, Result.andThen_ok, Sem.run_pure, if_true, sa, Nat.zero_add]
  rfl
 have q1 : ∀ v h l n, (part 3 #[.bool v, .int .u64 ((h : Nat) : Int), .int .u64 ((l : Nat) : Int), .int .i64 n] 3).run Tryz.prog W = .ok (.int .i64 n) W := fun v h l n => run_part_plain W pi rfl
 rw [run_equalIn_struct W (d + 3) _ _ _ hu hst, hf]
 rw [eqFields_cons n1, t1, o1, Sem.run_bind, q0, Result.andThen_ok, Sem.run_bind, q0, Result.andThen_ok, Sem.run_bind, adEq_run d W, Result.andThen_ok]
 by_cases e1 : (⟨v, h, l⟩ : Ad) = ⟨v', h', l'⟩
 ·rw [decide_eq_true e1, if_neg (by simp), eqFields_cons n2, t2, o2, Sem.run_bind, q1, Result.andThen_ok, Sem.run_bind, q1, Result.andThen_ok, Sem.run_bind, run_equalIn_int W (d + 2) _ .i64 .i64 _ _ ui, Result.andThen_ok]
  by_cases e2 : n = n'
  ·rw [e2, beq_self_eq_true, if_neg (by simp), Op.eqFields, Sem.run_pure, decide_eq_true (show _ ∧ n' = n' from ⟨e1, rfl⟩)]
  ·rw [beq_eq_false_iff_ne.2 e2, if_pos (by simp), Sem.run_pure, decide_eq_false (fun x => e2 x.2)]
 ·rw [decide_eq_false e1, if_pos (by simp), Sem.run_pure, decide_eq_false (fun x => e1 x.1)]
theorem eqPf (W : World) (v v' : Bool) (h l h' l' : Nat) (n n' : Int) : (binOp .eql 75 (pfV v h l n) (pfV v' h' l' n')).run Tryz.prog W = .ok (.bool (decide ((⟨v, h, l⟩ : Ad) = ⟨v', h', l'⟩ ∧ n = n'))) W := by
 rw [run_eql_struct, pfEq_run 9996 W]
 rfl
def adEqV (x y : Value) : Sem Value := binOp .eql 66 x y
def pfEqV (x y : Value) : Sem Value := binOp .eql 75 x y
theorem bin_ad (x y : Value) : binOp .eql 66 x y = adEqV x y := rfl
theorem bin_pf (x y : Value) : binOp .eql 75 x y = pfEqV x y := rfl
theorem adEqV_run (W : World) (v v' : Bool) (h l h' l' : Nat) : (adEqV (adV v h l) (adV v' h' l')).run Tryz.prog W = .ok (.bool (decide ((⟨v, h, l⟩ : Ad) = ⟨v', h', l'⟩))) W := eqAd W v v' h l h' l'
theorem pfEqV_run (W : World) (v v' : Bool) (h l h' l' : Nat) (n n' : Int) : (pfEqV (pfV v h l n) (pfV v' h' l' n')).run Tryz.prog W = .ok (.bool (decide ((⟨v, h, l⟩ : Ad) = ⟨v', h', l'⟩ ∧ n = n'))) W := eqPf W v v' h l h' l' n n'
end Go.Proofs.YtdlcldjlfhmlgaaGreatDoor.A
/- Layer 13: rightPrefix, Holds. -/
namespace Go.Proofs.YtdlcldjlfhmlgaaGreatDoor.A
open Go.RowKit
attribute [local go_sem ↓] bin_ad bin_pf
attribute [local go_sem] adEqV_run pfEqV_run
def Kp (V u : World) : Prop := Below V.heap.size V u
theorem Kp.refl (V : World) : Kp V V := Below.refl _ _
theorem Kp.drew {V u : World} (h : Kp V u) : Kp V u.drew := Below.drew h
theorem Kp.blk {V u u' : World} (h : Kp V u) (hb : Below u.heap.size u u') : Kp V u' := Below.trans h (Below.mono hb (Below.size h))
theorem Kp.cell {V u : World} (h : Kp V u) {b i : Nat} {x : Value} (hc : V.cell? ⟨b, i, none⟩ = some x) (hb : b < V.heap.size) : u.cell? ⟨b, i, none⟩ = some x := (Below.cell (p := ⟨b, i, none⟩) h hb).trans hc
theorem Kp.bel {W V u : World} (h : Kp V u) (hb : Below W.heap.size W V) : Below W.heap.size W u := Below.trans hb (Below.mono h (Below.size hb))
abbrev pfO (v : Bool) (h l : Nat) (n : Int) : Obj := .cells #[.bool v, .int .u64 h, .int .u64 l, .int .i64 n] 75 (0, 0)
theorem right_b (w : World) (v : Bool) (h l : Nat) : Calls Tryz.prog 137 #[adV v h l] w fun e w' => e = .returned (.bool (decide (Ad.right ⟨v, h, l⟩))) ∧ Below w.heap.size w w' :=
 (right_in w v h l).mono fun e w' ⟨h1, h2⟩ => ⟨h1, by rw [h2]; go_grown⟩
theorem width_b (w : World) (v : Bool) (h l : Nat) : Calls Tryz.prog 153 #[adV v h l] w fun e w' => e = .returned (.int .i64 (Ad.wd ⟨v, h, l⟩ : Nat)) ∧ Below w.heap.size w w' :=
 (width_in w v h l).mono fun e w' ⟨h1, h2⟩ => ⟨h1, by rw [h2]; go_grown⟩
theorem first_b (w : World) (v : Bool) (h l n : Nat) (hh : h < 2 ^ 64) (hl : l < 2 ^ 64) (hn : n ≤ Ad.wd ⟨v, h, l⟩) :
  Calls Tryz.prog 154 #[adV v h l, .int .i64 (n : Int)] w fun e w' => e = .returned (adV v (Ad.fst ⟨v, h, l⟩ n).hi (Ad.fst ⟨v, h, l⟩ n).lo) ∧ Below w.heap.size w w' := first_in w v h l n hh hl hn
theorem dec_ad (v : Bool) (A B h l : Nat) : decide ((⟨v, A, B⟩ : Ad) = ⟨v, h, l⟩) = (decide (A = h) && decide (B = l)) := by
 rw [Bool.eq_iff_iff]
 simp
theorem pf_cells (W : World) (v : Bool) (h l : Nat) (n : Int) : (W.alloc (pfO v h l n)).cell? ⟨W.heap.size, 0, none⟩ = some (.bool v) ∧ (W.alloc (pfO v h l n)).cell? ⟨W.heap.size, 1, none⟩ = some (.int .u64 h) ∧ (W.alloc (pfO v h l n)).cell? ⟨W.heap.size, 2, none⟩ = some (.int .u64 l) ∧ (W.alloc (pfO v h l n)).cell? ⟨W.heap.size, 3, none⟩ = some (.int .i64 n) := by
 have hh := heap_alloc_last W (pfO v h l n)
 exact ⟨cell_of_heap hh rfl, cell_of_heap hh rfl, cell_of_heap hh rfl, cell_of_heap hh rfl⟩
set_option maxRecDepth 100000 in
set_option maxHeartbeats 4000000 in
theorem rp_1 (W : World) (v : Bool) (h l : Nat) (n : Int) (hr : ¬ Ad.right ⟨v, h, l⟩) :
  Calls Tryz.prog 138 #[pfV v h l n] W fun e w' => e = .returned (.bool false) ∧ Below W.heap.size W w' := by
 have H1 : Hid (∀ w, Calls Tryz.prog 137 #[adV v h l] w fun e w' => e = .returned (.bool false) ∧ Below w.heap.size w w') := fun w => by have := right_b w v h l; rwa [decide_eq_false hr] at this
 clear hr
 obtain ⟨V, hV, F, HB⟩ : ∃ V, W.alloc (pfO v h l n) = V ∧ Kp V V ∧ Hid (Below W.heap.size W V) := ⟨_, rfl, Kp.refl _, by unfold Hid; go_grown⟩
 have HS : Hid (∀ w, Kp V w → Kp V w ∧ w.cell? ⟨W.heap.size, 0, none⟩ = some (.bool v) ∧ w.cell? ⟨W.heap.size, 1, none⟩ = some (.int .u64 (h : Int)) ∧ w.cell? ⟨W.heap.size, 2, none⟩ = some (.int .u64 (l : Int)) ∧ w.cell? ⟨W.heap.size, 3, none⟩ = some (.int .i64 n)) := fun w k => by
  have hc := pf_cells W v h l n
  rw [hV] at hc
  have hb : W.heap.size < V.heap.size := by rw [← hV]; simp
  exact ⟨k, k.cell hc.1 hb, k.cell hc.2.1 hb, k.cell hc.2.2.1 hb, k.cell hc.2.2.2 hb⟩
 go_enter Tryz.func138, Tryz.ntmps138
 go_upto_region 1 with fail
 try rw [hV]
 clear hV
 refine wp_region_held_drew (S := fun w => Kp V w ∧ w.cell? ⟨W.heap.size, 0, none⟩ = some (.bool v) ∧ w.cell? ⟨W.heap.size, 1, none⟩ = some (.int .u64 (h : Int)) ∧ w.cell? ⟨W.heap.size, 2, none⟩ = some (.int .u64 (l : Int)) ∧ w.cell? ⟨W.heap.size, 3, none⟩ = some (.int .i64 n)) (by kernel_rfl) (HS.out _ (Kp.drew F)) (fun hHeld => ?_)
 refine wU (i := 0) (v := ?vh1_0) rfl ?yh1_0 (by assumption) ?_
 case yh1_0 => (intro w hSw; (try dsimp only at hSw); go_simp; try with_reducible rfl)
 refine wU (i := 1) (v := ?vh1_1) rfl ?yh1_1 (by assumption) ?_
 case yh1_1 => (intro w hSw; (try dsimp only at hSw); go_simp; try with_reducible rfl)
 try simp only [Act.put, List.getElem_toArray, List.getElem_cons_succ, List.getElem_cons_zero, List.setIfInBounds_toArray, List.set_cons_zero, List.set_cons_succ]
 refine wpAnyH_ready (rs := [2]) (by kernel_rfl) (by simp) ?_
 refine AllReadyH.cons rfl (fun K hK => ?_) AllReadyH.nil
 go_simp
 go_at_call 137
 with_reducible refine (H1.out _).mono ?_
 rintro e w2 ⟨rfl, hb2⟩
 have F2 := Kp.blk (V := V) (by repeat (first | assumption | apply Kp.drew)) hb2
 have hs2 := HS.out _ F2
 refine hK.out _ _ hs2 (fun hHeld2 => ?_)
 clear hK K
 try simp only [Act.put, List.getElem_toArray, List.getElem_cons_succ, List.getElem_cons_zero, List.setIfInBounds_toArray, List.set_cons_zero, List.set_cons_succ]
 refine wU (i := 3) (v := ?vh1_3) rfl ?yh1_3 (by assumption) ?_
 case yh1_3 => (intro w hSw; (try dsimp only at hSw); go_simp; try with_reducible rfl)
 try simp only [Act.put, List.getElem_toArray, List.getElem_cons_succ, List.getElem_cons_zero, List.setIfInBounds_toArray, List.set_cons_zero, List.set_cons_succ]
 refine wT (i := 4) (v := undef) rfl (Or.inr ⟨by kernel_rfl, rfl⟩) (by assumption) ?_
 refine wT (i := 5) (v := undef) rfl (Or.inr ⟨by kernel_rfl, rfl⟩) (by assumption) ?_
 refine wT (i := 6) (v := undef) rfl (Or.inr ⟨by kernel_rfl, rfl⟩) (by assumption) ?_
 try simp only [Act.put, List.getElem_toArray, List.getElem_cons_succ, List.getElem_cons_zero, List.setIfInBounds_toArray, List.set_cons_zero, List.set_cons_succ]
 refine wU (i := 7) (v := ?vh1_7) rfl ?yh1_7 (by assumption) ?_
 case yh1_7 => (intro w hSw; (try dsimp only at hSw); go_simp; try with_reducible rfl)
 refine wU (i := 8) (v := ?vh1_8) rfl ?yh1_8 (by assumption) ?_
 case yh1_8 => (intro w hSw; (try dsimp only at hSw); go_simp; try with_reducible rfl)
 try simp only [Act.put, List.getElem_toArray, List.getElem_cons_succ, List.getElem_cons_zero, List.setIfInBounds_toArray, List.set_cons_zero, List.set_cons_succ]
 refine wT (i := 9) (v := undef) rfl (Or.inr ⟨by kernel_rfl, rfl⟩) (by assumption) ?_
 refine wT (i := 10) (v := undef) rfl (Or.inr ⟨by kernel_rfl, rfl⟩) (by assumption) ?_
 refine wT (i := 11) (v := undef) rfl (Or.inr ⟨by kernel_rfl, rfl⟩) (by assumption) ?_
 refine wT (i := 12) (v := undef) rfl (Or.inr ⟨by kernel_rfl, rfl⟩) (by assumption) ?_
 refine wT (i := 13) (v := undef) rfl (Or.inr ⟨by kernel_rfl, rfl⟩) (by assumption) ?_
 refine wT (i := 14) (v := undef) rfl (Or.inr ⟨by kernel_rfl, rfl⟩) (by assumption) ?_
 try simp only [Act.put, List.getElem_toArray, List.getElem_cons_succ, List.getElem_cons_zero, List.setIfInBounds_toArray, List.set_cons_zero, List.set_cons_succ]
 refine wU (i := 15) (v := ?vh1_15) rfl ?yh1_15 (by assumption) ?_
 case yh1_15 => (intro w hSw; (try dsimp only at hSw); go_simp; try with_reducible rfl)
 refine wU (i := 16) (v := ?vh1_16) rfl ?yh1_16 (by assumption) ?_
 case yh1_16 => (intro w hSw; (try dsimp only at hSw); go_simp; try with_reducible rfl)
 try simp only [Act.put, List.getElem_toArray, List.getElem_cons_succ, List.getElem_cons_zero, List.setIfInBounds_toArray, List.set_cons_zero, List.set_cons_succ]
 refine wT (i := 17) (v := undef) rfl (Or.inr ⟨by kernel_rfl, rfl⟩) (by assumption) ?_
 refine wT (i := 18) (v := undef) rfl (Or.inr ⟨by kernel_rfl, rfl⟩) (by assumption) ?_
 refine wT (i := 19) (v := undef) rfl (Or.inr ⟨by kernel_rfl, rfl⟩) (by assumption) ?_
 refine wT (i := 20) (v := undef) rfl (Or.inr ⟨by kernel_rfl, rfl⟩) (by assumption) ?_
 refine wT (i := 21) (v := undef) rfl (Or.inr ⟨by kernel_rfl, rfl⟩) (by assumption) ?_
 refine wT (i := 22) (v := undef) rfl (Or.inr ⟨by kernel_rfl, rfl⟩) (by assumption) ?_
 refine wT (i := 23) (v := undef) rfl (Or.inr ⟨by kernel_rfl, rfl⟩) (by assumption) ?_
 refine wT (i := 24) (v := undef) rfl (Or.inr ⟨by kernel_rfl, rfl⟩) (by assumption) ?_
 try simp only [Act.put, List.getElem_toArray, List.getElem_cons_succ, List.getElem_cons_zero, List.setIfInBounds_toArray, List.set_cons_zero, List.set_cons_succ]
 refine wU (i := 25) (v := ?vh1_25) rfl ?yh1_25 (by assumption) ?_
 case yh1_25 => (intro w hSw; (try dsimp only at hSw); go_simp; try with_reducible rfl)
 refine wU (i := 26) (v := ?vh1_26) rfl ?yh1_26 (by assumption) ?_
 case yh1_26 => (intro w hSw; (try dsimp only at hSw); go_simp; try with_reducible rfl)
 try simp only [Act.put, List.getElem_toArray, List.getElem_cons_succ, List.getElem_cons_zero, List.setIfInBounds_toArray, List.set_cons_zero, List.set_cons_succ]
 refine wpAnyH_done (by kernel_rfl) ?_ _
 go_wp2
 go_ret
 exact ⟨rfl, F2.bel HB.out⟩
set_option maxRecDepth 100000 in
set_option maxHeartbeats 4000000 in
theorem rp_2 (W : World) (v : Bool) (h l : Nat) (n : Int) (hr : Ad.right ⟨v, h, l⟩) (hn : n < 0) :
  Calls Tryz.prog 138 #[pfV v h l n] W fun e w' => e = .returned (.bool false) ∧ Below W.heap.size W w' := by
 have H1 : Hid (∀ w, Calls Tryz.prog 137 #[adV v h l] w fun e w' => e = .returned (.bool true) ∧ Below w.heap.size w w') := fun w => by have := right_b w v h l; rwa [decide_eq_true hr] at this
 clear hr
 have hd : decide (0 ≤ n) = false := decide_eq_false (by omega)
 obtain ⟨V, hV, F, HB⟩ : ∃ V, W.alloc (pfO v h l n) = V ∧ Kp V V ∧ Hid (Below W.heap.size W V) := ⟨_, rfl, Kp.refl _, by unfold Hid; go_grown⟩
 have HS : Hid (∀ w, Kp V w → Kp V w ∧ w.cell? ⟨W.heap.size, 0, none⟩ = some (.bool v) ∧ w.cell? ⟨W.heap.size, 1, none⟩ = some (.int .u64 (h : Int)) ∧ w.cell? ⟨W.heap.size, 2, none⟩ = some (.int .u64 (l : Int)) ∧ w.cell? ⟨W.heap.size, 3, none⟩ = some (.int .i64 n)) := fun w k => by
  have hc := pf_cells W v h l n
  rw [hV] at hc
  have hb : W.heap.size < V.heap.size := by rw [← hV]; simp
  exact ⟨k, k.cell hc.1 hb, k.cell hc.2.1 hb, k.cell hc.2.2.1 hb, k.cell hc.2.2.2 hb⟩
 go_enter Tryz.func138, Tryz.ntmps138
 go_upto_region 1 with fail
 try rw [hV]
 clear hV
 refine wp_region_held_drew (S := fun w => Kp V w ∧ w.cell? ⟨W.heap.size, 0, none⟩ = some (.bool v) ∧ w.cell? ⟨W.heap.size, 1, none⟩ = some (.int .u64 (h : Int)) ∧ w.cell? ⟨W.heap.size, 2, none⟩ = some (.int .u64 (l : Int)) ∧ w.cell? ⟨W.heap.size, 3, none⟩ = some (.int .i64 n)) (by kernel_rfl) (HS.out _ (Kp.drew F)) (fun hHeld => ?_)
 refine wU (i := 0) (v := ?vh2_0) rfl ?yh2_0 (by assumption) ?_
 case yh2_0 => (intro w hSw; (try dsimp only at hSw); go_simp; try with_reducible rfl)
 refine wU (i := 1) (v := ?vh2_1) rfl ?yh2_1 (by assumption) ?_
 case yh2_1 => (intro w hSw; (try dsimp only at hSw); go_simp; try with_reducible rfl)
 try simp only [Act.put, List.getElem_toArray, List.getElem_cons_succ, List.getElem_cons_zero, List.setIfInBounds_toArray, List.set_cons_zero, List.set_cons_succ]
 refine wpAnyH_ready (rs := [2]) (by kernel_rfl) (by simp) ?_
 refine AllReadyH.cons rfl (fun K hK => ?_) AllReadyH.nil
 go_simp
 go_at_call 137
 with_reducible refine (H1.out _).mono ?_
 rintro e w2 ⟨rfl, hb2⟩
 have F2 := Kp.blk (V := V) (by repeat (first | assumption | apply Kp.drew)) hb2
 have hs2 := HS.out _ F2
 refine hK.out _ _ hs2 (fun hHeld2 => ?_)
 clear hK K
 try simp only [Act.put, List.getElem_toArray, List.getElem_cons_succ, List.getElem_cons_zero, List.setIfInBounds_toArray, List.set_cons_zero, List.set_cons_succ]
 refine wU (i := 3) (v := ?vh2_3) rfl ?yh2_3 (by assumption) ?_
 case yh2_3 => (intro w hSw; (try dsimp only at hSw); go_simp; try with_reducible rfl)
 refine wU (i := 4) (v := ?vh2_4) rfl ?yh2_4 (by assumption) ?_
 case yh2_4 => (intro w hSw; (try dsimp only at hSw); go_simp; try with_reducible rfl)
 refine wU (i := 5) (v := ?vh2_5) rfl ?yh2_5 (by assumption) ?_
 case yh2_5 => (intro w hSw; (try dsimp only at hSw); go_simp; try with_reducible rfl)
 refine wU (i := 6) (v := ?vh2_6) rfl ?yh2_6 (by assumption) ?_
 case yh2_6 => (intro w hSw; (try dsimp only at hSw); go_simp; try with_reducible rfl)
 refine wU (i := 7) (v := ?vh2_7) rfl ?yh2_7 (by assumption) ?_
 case yh2_7 => (intro w hSw; (try dsimp only at hSw); go_simp; try with_reducible rfl)
 refine wU (i := 8) (v := ?vh2_8) rfl ?yh2_8 (by assumption) ?_
 case yh2_8 => (intro w hSw; (try dsimp only at hSw); go_simp; try with_reducible rfl)
 try simp only [Act.put, List.getElem_toArray, List.getElem_cons_succ, List.getElem_cons_zero, List.setIfInBounds_toArray, List.set_cons_zero, List.set_cons_succ]
 refine wT (i := 9) (v := undef) rfl (Or.inr ⟨by kernel_rfl, rfl⟩) (by assumption) ?_
 refine wT (i := 10) (v := undef) rfl (Or.inr ⟨by kernel_rfl, rfl⟩) (by assumption) ?_
 refine wT (i := 11) (v := undef) rfl (Or.inr ⟨by kernel_rfl, rfl⟩) (by assumption) ?_
 refine wT (i := 12) (v := undef) rfl (Or.inr ⟨by kernel_rfl, rfl⟩) (by assumption) ?_
 refine wT (i := 13) (v := undef) rfl (Or.inr ⟨by kernel_rfl, rfl⟩) (by assumption) ?_
 refine wT (i := 14) (v := undef) rfl (Or.inr ⟨by kernel_rfl, rfl⟩) (by assumption) ?_
 try simp only [Act.put, List.getElem_toArray, List.getElem_cons_succ, List.getElem_cons_zero, List.setIfInBounds_toArray, List.set_cons_zero, List.set_cons_succ]
 refine wU (i := 15) (v := ?vh2_15) rfl ?yh2_15 (by assumption) ?_
 case yh2_15 => (intro w hSw; (try dsimp only at hSw); go_simp; try with_reducible rfl)
 refine wU (i := 16) (v := ?vh2_16) rfl ?yh2_16 (by assumption) ?_
 case yh2_16 => (intro w hSw; (try dsimp only at hSw); go_simp; try with_reducible rfl)
 try simp only [Act.put, List.getElem_toArray, List.getElem_cons_succ, List.getElem_cons_zero, List.setIfInBounds_toArray, List.set_cons_zero, List.set_cons_succ]
 refine wT (i := 17) (v := undef) rfl (Or.inr ⟨by kernel_rfl, rfl⟩) (by assumption) ?_
 refine wT (i := 18) (v := undef) rfl (Or.inr ⟨by kernel_rfl, rfl⟩) (by assumption) ?_
 refine wT (i := 19) (v := undef) rfl (Or.inr ⟨by kernel_rfl, rfl⟩) (by assumption) ?_
 refine wT (i := 20) (v := undef) rfl (Or.inr ⟨by kernel_rfl, rfl⟩) (by assumption) ?_
 refine wT (i := 21) (v := undef) rfl (Or.inr ⟨by kernel_rfl, rfl⟩) (by assumption) ?_
 refine wT (i := 22) (v := undef) rfl (Or.inr ⟨by kernel_rfl, rfl⟩) (by assumption) ?_
 refine wT (i := 23) (v := undef) rfl (Or.inr ⟨by kernel_rfl, rfl⟩) (by assumption) ?_
 refine wT (i := 24) (v := undef) rfl (Or.inr ⟨by kernel_rfl, rfl⟩) (by assumption) ?_
 try simp only [Act.put, List.getElem_toArray, List.getElem_cons_succ, List.getElem_cons_zero, List.setIfInBounds_toArray, List.set_cons_zero, List.set_cons_succ]
 refine wU (i := 25) (v := ?vh2_25) rfl ?yh2_25 (by assumption) ?_
 case yh2_25 => (intro w hSw; (try dsimp only at hSw); go_simp; try with_reducible rfl)
 refine wU (i := 26) (v := ?vh2_26) rfl ?yh2_26 (by assumption) ?_
 case yh2_26 => (intro w hSw; (try dsimp only at hSw); go_simp; try with_reducible rfl)
 try simp only [Act.put, List.getElem_toArray, List.getElem_cons_succ, List.getElem_cons_zero, List.setIfInBounds_toArray, List.set_cons_zero, List.set_cons_succ]
 refine wpAnyH_done (by kernel_rfl) ?_ _
 go_wp2
 go_ret
 exact ⟨rfl, F2.bel HB.out⟩
set_option maxRecDepth 100000 in
set_option maxHeartbeats 4000000 in
theorem rp_3 (W : World) (v : Bool) (h l : Nat) (n : Int) (hr : Ad.right ⟨v, h, l⟩) (hn : 0 ≤ n) (hw : (Ad.wd ⟨v, h, l⟩ : Int) < n) :
  Calls Tryz.prog 138 #[pfV v h l n] W fun e w' => e = .returned (.bool false) ∧ Below W.heap.size W w' := by
 have H1 : Hid (∀ w, Calls Tryz.prog 137 #[adV v h l] w fun e w' => e = .returned (.bool true) ∧ Below w.heap.size w w') := fun w => by have := right_b w v h l; rwa [decide_eq_true hr] at this
 clear hr
 have hd : decide (0 ≤ n) = true := decide_eq_true hn
 have H2 := Hid.mk (fun w => width_b w v h l)
 generalize Ad.wd ⟨v, h, l⟩ = X at hw H2
 have hd2 : decide (n ≤ (X : Int)) = false := decide_eq_false (by omega)
 obtain ⟨V, hV, F, HB⟩ : ∃ V, W.alloc (pfO v h l n) = V ∧ Kp V V ∧ Hid (Below W.heap.size W V) := ⟨_, rfl, Kp.refl _, by unfold Hid; go_grown⟩
 have HS : Hid (∀ w, Kp V w → Kp V w ∧ w.cell? ⟨W.heap.size, 0, none⟩ = some (.bool v) ∧ w.cell? ⟨W.heap.size, 1, none⟩ = some (.int .u64 (h : Int)) ∧ w.cell? ⟨W.heap.size, 2, none⟩ = some (.int .u64 (l : Int)) ∧ w.cell? ⟨W.heap.size, 3, none⟩ = some (.int .i64 n)) := fun w k => by
  have hc := pf_cells W v h l n
  rw [hV] at hc
  have hb : W.heap.size < V.heap.size := by rw [← hV]; simp
  exact ⟨k, k.cell hc.1 hb, k.cell hc.2.1 hb, k.cell hc.2.2.1 hb, k.cell hc.2.2.2 hb⟩
 go_enter Tryz.func138, Tryz.ntmps138
 go_upto_region 1 with fail
 try rw [hV]
 clear hV
 refine wp_region_held_drew (S := fun w => Kp V w ∧ w.cell? ⟨W.heap.size, 0, none⟩ = some (.bool v) ∧ w.cell? ⟨W.heap.size, 1, none⟩ = some (.int .u64 (h : Int)) ∧ w.cell? ⟨W.heap.size, 2, none⟩ = some (.int .u64 (l : Int)) ∧ w.cell? ⟨W.heap.size, 3, none⟩ = some (.int .i64 n)) (by kernel_rfl) (HS.out _ (Kp.drew F)) (fun hHeld => ?_)
 refine wU (i := 0) (v := ?vh3_0) rfl ?yh3_0 (by assumption) ?_
 case yh3_0 => (intro w hSw; (try dsimp only at hSw); go_simp; try with_reducible rfl)
 refine wU (i := 1) (v := ?vh3_1) rfl ?yh3_1 (by assumption) ?_
 case yh3_1 => (intro w hSw; (try dsimp only at hSw); go_simp; try with_reducible rfl)
 try simp only [Act.put, List.getElem_toArray, List.getElem_cons_succ, List.getElem_cons_zero, List.setIfInBounds_toArray, List.set_cons_zero, List.set_cons_succ]
 refine wpAnyH_ready (rs := [2]) (by kernel_rfl) (by simp) ?_
 refine AllReadyH.cons rfl (fun K hK => ?_) AllReadyH.nil
 go_simp
 go_at_call 137
 with_reducible refine (H1.out _).mono ?_
 rintro e w2 ⟨rfl, hb2⟩
 have F2 := Kp.blk (V := V) (by repeat (first | assumption | apply Kp.drew)) hb2
 have hs2 := HS.out _ F2
 refine hK.out _ _ hs2 (fun hHeld2 => ?_)
 clear hK K
 try simp only [Act.put, List.getElem_toArray, List.getElem_cons_succ, List.getElem_cons_zero, List.setIfInBounds_toArray, List.set_cons_zero, List.set_cons_succ]
 refine wU (i := 3) (v := ?vh3_3) rfl ?yh3_3 (by assumption) ?_
 case yh3_3 => (intro w hSw; (try dsimp only at hSw); go_simp; try with_reducible rfl)
 refine wU (i := 4) (v := ?vh3_4) rfl ?yh3_4 (by assumption) ?_
 case yh3_4 => (intro w hSw; (try dsimp only at hSw); go_simp; try with_reducible rfl)
 refine wU (i := 5) (v := ?vh3_5) rfl ?yh3_5 (by assumption) ?_
 case yh3_5 => (intro w hSw; (try dsimp only at hSw); go_simp; try with_reducible rfl)
 refine wU (i := 6) (v := ?vh3_6) rfl ?yh3_6 (by assumption) ?_
 case yh3_6 => (intro w hSw; (try dsimp only at hSw); go_simp; try with_reducible rfl)
 refine wU (i := 7) (v := ?vh3_7) rfl ?yh3_7 (by assumption) ?_
 case yh3_7 => (intro w hSw; (try dsimp only at hSw); go_simp; try with_reducible rfl)
 refine wU (i := 8) (v := ?vh3_8) rfl ?yh3_8 (by assumption) ?_
 case yh3_8 => (intro w hSw; (try dsimp only at hSw); go_simp; try with_reducible rfl)
 refine wU (i := 9) (v := ?vh3_9) rfl ?yh3_9 (by assumption) ?_
 case yh3_9 => (intro w hSw; (try dsimp only at hSw); go_simp; try with_reducible rfl)
 refine wU (i := 10) (v := ?vh3_10) rfl ?yh3_10 (by assumption) ?_
 case yh3_10 => (intro w hSw; (try dsimp only at hSw); go_simp; try with_reducible rfl)
 refine wU (i := 11) (v := ?vh3_11) rfl ?yh3_11 (by assumption) ?_
 case yh3_11 => (intro w hSw; (try dsimp only at hSw); go_simp; try with_reducible rfl)
 refine wU (i := 12) (v := ?vh3_12) rfl ?yh3_12 (by assumption) ?_
 case yh3_12 => (intro w hSw; (try dsimp only at hSw); go_simp; try with_reducible rfl)
 try simp only [Act.put, List.getElem_toArray, List.getElem_cons_succ, List.getElem_cons_zero, List.setIfInBounds_toArray, List.set_cons_zero, List.set_cons_succ]
 refine wpAnyH_ready (rs := [13]) (by kernel_rfl) (by simp) ?_
 refine AllReadyH.cons rfl (fun K hK => ?_) AllReadyH.nil
 go_simp
 go_at_call 153
 with_reducible refine (H2.out _).mono ?_
 rintro e w3 ⟨rfl, hb3⟩
 have F3 := Kp.blk (V := V) (by repeat (first | assumption | apply Kp.drew)) hb3
 have hs3 := HS.out _ F3
 refine hK.out _ _ hs3 (fun hHeld3 => ?_)
 clear hK K
 try simp only [Act.put, List.getElem_toArray, List.getElem_cons_succ, List.getElem_cons_zero, List.setIfInBounds_toArray, List.set_cons_zero, List.set_cons_succ]
 refine wU (i := 14) (v := ?vh3_14) rfl ?yh3_14 (by assumption) ?_
 case yh3_14 => (intro w hSw; (try dsimp only at hSw); go_simp; try with_reducible rfl)
 refine wU (i := 15) (v := ?vh3_15) rfl ?yh3_15 (by assumption) ?_
 case yh3_15 => (intro w hSw; (try dsimp only at hSw); go_simp; try with_reducible rfl)
 refine wU (i := 16) (v := ?vh3_16) rfl ?yh3_16 (by assumption) ?_
 case yh3_16 => (intro w hSw; (try dsimp only at hSw); go_simp; try with_reducible rfl)
 try simp only [Act.put, List.getElem_toArray, List.getElem_cons_succ, List.getElem_cons_zero, List.setIfInBounds_toArray, List.set_cons_zero, List.set_cons_succ]
 refine wT (i := 17) (v := undef) rfl (Or.inr ⟨by kernel_rfl, rfl⟩) (by assumption) ?_
 refine wT (i := 18) (v := undef) rfl (Or.inr ⟨by kernel_rfl, rfl⟩) (by assumption) ?_
 refine wT (i := 19) (v := undef) rfl (Or.inr ⟨by kernel_rfl, rfl⟩) (by assumption) ?_
 refine wT (i := 20) (v := undef) rfl (Or.inr ⟨by kernel_rfl, rfl⟩) (by assumption) ?_
 refine wT (i := 21) (v := undef) rfl (Or.inr ⟨by kernel_rfl, rfl⟩) (by assumption) ?_
 refine wT (i := 22) (v := undef) rfl (Or.inr ⟨by kernel_rfl, rfl⟩) (by assumption) ?_
 refine wT (i := 23) (v := undef) rfl (Or.inr ⟨by kernel_rfl, rfl⟩) (by assumption) ?_
 refine wT (i := 24) (v := undef) rfl (Or.inr ⟨by kernel_rfl, rfl⟩) (by assumption) ?_
 try simp only [Act.put, List.getElem_toArray, List.getElem_cons_succ, List.getElem_cons_zero, List.setIfInBounds_toArray, List.set_cons_zero, List.set_cons_succ]
 refine wU (i := 25) (v := ?vh3_25) rfl ?yh3_25 (by assumption) ?_
 case yh3_25 => (intro w hSw; (try dsimp only at hSw); go_simp; try with_reducible rfl)
 refine wU (i := 26) (v := ?vh3_26) rfl ?yh3_26 (by assumption) ?_
 case yh3_26 => (intro w hSw; (try dsimp only at hSw); go_simp; try with_reducible rfl)
 try simp only [Act.put, List.getElem_toArray, List.getElem_cons_succ, List.getElem_cons_zero, List.setIfInBounds_toArray, List.set_cons_zero, List.set_cons_succ]
 refine wpAnyH_done (by kernel_rfl) ?_ _
 go_wp2
 go_ret
 exact ⟨rfl, F3.bel HB.out⟩
set_option maxRecDepth 100000 in
set_option maxHeartbeats 4000000 in
theorem rp_4 (W : World) (v : Bool) (h l : Nat) (n : Int) (m : Nat) (hm : n = m) (hh : h < 2 ^ 64) (hl : l < 2 ^ 64) (hr : Ad.right ⟨v, h, l⟩) (hw : m ≤ Ad.wd ⟨v, h, l⟩) :
  Calls Tryz.prog 138 #[pfV v h l n] W fun e w' => e = .returned (.bool (decide (Ad.fst ⟨v, h, l⟩ m = ⟨v, h, l⟩))) ∧ Below W.heap.size W w' := by
 have H3 := Hid.mk (fun w => first_b w v h l m hh hl hw)
 obtain ⟨A, hA⟩ : ∃ A, (Ad.fst ⟨v, h, l⟩ m).hi = A := ⟨_, rfl⟩
 obtain ⟨B, hB⟩ : ∃ B, (Ad.fst ⟨v, h, l⟩ m).lo = B := ⟨_, rfl⟩
 have hAB : Ad.fst ⟨v, h, l⟩ m = ⟨v, A, B⟩ := by
  rw [← hA, ← hB]
  exact Ad.eta (Ad.fst_v6 _ _)
 rw [hA, hB] at H3
 rw [hAB]
 clear hAB hA hB
 rw [← hm] at H3
 have H1 : Hid (∀ w, Calls Tryz.prog 137 #[adV v h l] w fun e w' => e = .returned (.bool true) ∧ Below w.heap.size w w') := fun w => by have := right_b w v h l; rwa [decide_eq_true hr] at this
 clear hr
 have hd : decide (0 ≤ n) = true := decide_eq_true (by omega)
 have H2 := Hid.mk (fun w => width_b w v h l)
 generalize Ad.wd ⟨v, h, l⟩ = X at hw H2
 have hd2 : decide (n ≤ (X : Int)) = true := decide_eq_true (by omega)
 clear hm hh hl hw
 obtain ⟨V, hV, F, HB⟩ : ∃ V, W.alloc (pfO v h l n) = V ∧ Kp V V ∧ Hid (Below W.heap.size W V) := ⟨_, rfl, Kp.refl _, by unfold Hid; go_grown⟩
 have HS : Hid (∀ w, Kp V w → Kp V w ∧ w.cell? ⟨W.heap.size, 0, none⟩ = some (.bool v) ∧ w.cell? ⟨W.heap.size, 1, none⟩ = some (.int .u64 (h : Int)) ∧ w.cell? ⟨W.heap.size, 2, none⟩ = some (.int .u64 (l : Int)) ∧ w.cell? ⟨W.heap.size, 3, none⟩ = some (.int .i64 n)) := fun w k => by
  have hc := pf_cells W v h l n
  rw [hV] at hc
  have hb : W.heap.size < V.heap.size := by rw [← hV]; simp
  exact ⟨k, k.cell hc.1 hb, k.cell hc.2.1 hb, k.cell hc.2.2.1 hb, k.cell hc.2.2.2 hb⟩
 go_enter Tryz.func138, Tryz.ntmps138
 go_upto_region 1 with fail
 try rw [hV]
 clear hV
 refine wp_region_held_drew (S := fun w => Kp V w ∧ w.cell? ⟨W.heap.size, 0, none⟩ = some (.bool v) ∧ w.cell? ⟨W.heap.size, 1, none⟩ = some (.int .u64 (h : Int)) ∧ w.cell? ⟨W.heap.size, 2, none⟩ = some (.int .u64 (l : Int)) ∧ w.cell? ⟨W.heap.size, 3, none⟩ = some (.int .i64 n)) (by kernel_rfl) (HS.out _ (Kp.drew F)) (fun hHeld => ?_)
 refine wU (i := 0) (v := ?vh4_0) rfl ?yh4_0 (by assumption) ?_
 case yh4_0 => (intro w hSw; (try dsimp only at hSw); go_simp; try with_reducible rfl)
 refine wU (i := 1) (v := ?vh4_1) rfl ?yh4_1 (by assumption) ?_
 case yh4_1 => (intro w hSw; (try dsimp only at hSw); go_simp; try with_reducible rfl)
 try simp only [Act.put, List.getElem_toArray, List.getElem_cons_succ, List.getElem_cons_zero, List.setIfInBounds_toArray, List.set_cons_zero, List.set_cons_succ]
 refine wpAnyH_ready (rs := [2]) (by kernel_rfl) (by simp) ?_
 refine AllReadyH.cons rfl (fun K hK => ?_) AllReadyH.nil
 go_simp
 go_at_call 137
 with_reducible refine (H1.out _).mono ?_
 rintro e w2 ⟨rfl, hb2⟩
 have F2 := Kp.blk (V := V) (by repeat (first | assumption | apply Kp.drew)) hb2
 have hs2 := HS.out _ F2
 refine hK.out _ _ hs2 (fun hHeld2 => ?_)
 clear hK K
 try simp only [Act.put, List.getElem_toArray, List.getElem_cons_succ, List.getElem_cons_zero, List.setIfInBounds_toArray, List.set_cons_zero, List.set_cons_succ]
 refine wU (i := 3) (v := ?vh4_3) rfl ?yh4_3 (by assumption) ?_
 case yh4_3 => (intro w hSw; (try dsimp only at hSw); go_simp; try with_reducible rfl)
 refine wU (i := 4) (v := ?vh4_4) rfl ?yh4_4 (by assumption) ?_
 case yh4_4 => (intro w hSw; (try dsimp only at hSw); go_simp; try with_reducible rfl)
 refine wU (i := 5) (v := ?vh4_5) rfl ?yh4_5 (by assumption) ?_
 case yh4_5 => (intro w hSw; (try dsimp only at hSw); go_simp; try with_reducible rfl)
 refine wU (i := 6) (v := ?vh4_6) rfl ?yh4_6 (by assumption) ?_
 case yh4_6 => (intro w hSw; (try dsimp only at hSw); go_simp; try with_reducible rfl)
 refine wU (i := 7) (v := ?vh4_7) rfl ?yh4_7 (by assumption) ?_
 case yh4_7 => (intro w hSw; (try dsimp only at hSw); go_simp; try with_reducible rfl)
 refine wU (i := 8) (v := ?vh4_8) rfl ?yh4_8 (by assumption) ?_
 case yh4_8 => (intro w hSw; (try dsimp only at hSw); go_simp; try with_reducible rfl)
 refine wU (i := 9) (v := ?vh4_9) rfl ?yh4_9 (by assumption) ?_
 case yh4_9 => (intro w hSw; (try dsimp only at hSw); go_simp; try with_reducible rfl)
 refine wU (i := 10) (v := ?vh4_10) rfl ?yh4_10 (by assumption) ?_
 case yh4_10 => (intro w hSw; (try dsimp only at hSw); go_simp; try with_reducible rfl)
 refine wU (i := 11) (v := ?vh4_11) rfl ?yh4_11 (by assumption) ?_
 case yh4_11 => (intro w hSw; (try dsimp only at hSw); go_simp; try with_reducible rfl)
 refine wU (i := 12) (v := ?vh4_12) rfl ?yh4_12 (by assumption) ?_
 case yh4_12 => (intro w hSw; (try dsimp only at hSw); go_simp; try with_reducible rfl)
 try simp only [Act.put, List.getElem_toArray, List.getElem_cons_succ, List.getElem_cons_zero, List.setIfInBounds_toArray, List.set_cons_zero, List.set_cons_succ]
 refine wpAnyH_ready (rs := [13]) (by kernel_rfl) (by simp) ?_
 refine AllReadyH.cons rfl (fun K hK => ?_) AllReadyH.nil
 go_simp
 go_at_call 153
 with_reducible refine (H2.out _).mono ?_
 rintro e w3 ⟨rfl, hb3⟩
 have F3 := Kp.blk (V := V) (by repeat (first | assumption | apply Kp.drew)) hb3
 have hs3 := HS.out _ F3
 refine hK.out _ _ hs3 (fun hHeld3 => ?_)
 clear hK K
 try simp only [Act.put, List.getElem_toArray, List.getElem_cons_succ, List.getElem_cons_zero, List.setIfInBounds_toArray, List.set_cons_zero, List.set_cons_succ]
 refine wU (i := 14) (v := ?vh4_14) rfl ?yh4_14 (by assumption) ?_
 case yh4_14 => (intro w hSw; (try dsimp only at hSw); go_simp; try with_reducible rfl)
 refine wU (i := 15) (v := ?vh4_15) rfl ?yh4_15 (by assumption) ?_
 case yh4_15 => (intro w hSw; (try dsimp only at hSw); go_simp; try with_reducible rfl)
 refine wU (i := 16) (v := ?vh4_16) rfl ?yh4_16 (by assumption) ?_
 case yh4_16 => (intro w hSw; (try dsimp only at hSw); go_simp; try with_reducible rfl)
 refine wU (i := 17) (v := ?vh4_17) rfl ?yh4_17 (by assumption) ?_
 case yh4_17 => (intro w hSw; (try dsimp only at hSw); go_simp; try with_reducible rfl)
 refine wU (i := 18) (v := ?vh4_18) rfl ?yh4_18 (by assumption) ?_
 case yh4_18 => (intro w hSw; (try dsimp only at hSw); go_simp; try with_reducible rfl)
 refine wU (i := 19) (v := ?vh4_19) rfl ?yh4_19 (by assumption) ?_
 case yh4_19 => (intro w hSw; (try dsimp only at hSw); go_simp; try with_reducible rfl)
 refine wU (i := 20) (v := ?vh4_20) rfl ?yh4_20 (by assumption) ?_
 case yh4_20 => (intro w hSw; (try dsimp only at hSw); go_simp; try with_reducible rfl)
 refine wU (i := 22) (v := ?vh4_22) rfl ?yh4_22 (by assumption) ?_
 case yh4_22 => (intro w hSw; (try dsimp only at hSw); go_simp; try with_reducible rfl)
 refine wU (i := 23) (v := ?vh4_23) rfl ?yh4_23 (by assumption) ?_
 case yh4_23 => (intro w hSw; (try dsimp only at hSw); go_simp; try with_reducible rfl)
 try simp only [Act.put, List.getElem_toArray, List.getElem_cons_succ, List.getElem_cons_zero, List.setIfInBounds_toArray, List.set_cons_zero, List.set_cons_succ]
 refine wpAnyH_ready (rs := [21]) (by kernel_rfl) (by simp) ?_
 refine AllReadyH.cons rfl (fun K hK => ?_) AllReadyH.nil
 go_simp
 go_at_call 154
 with_reducible refine (H3.out _).mono ?_
 rintro e w4 ⟨rfl, hb4⟩
 have F4 := Kp.blk (V := V) (by repeat (first | assumption | apply Kp.drew)) hb4
 have hs4 := HS.out _ F4
 refine hK.out _ _ hs4 (fun hHeld4 => ?_)
 clear hK K
 try simp only [Act.put, List.getElem_toArray, List.getElem_cons_succ, List.getElem_cons_zero, List.setIfInBounds_toArray, List.set_cons_zero, List.set_cons_succ]
 refine wU (i := 24) (v := ?vh4_24) rfl ?yh4_24 (by assumption) ?_
 case yh4_24 => (intro w hSw; (try dsimp only at hSw); go_simp; try with_reducible rfl)
 refine wU (i := 25) (v := ?vh4_25) rfl ?yh4_25 (by assumption) ?_
 case yh4_25 => (intro w hSw; (try dsimp only at hSw); go_simp; try with_reducible rfl)
 refine wU (i := 26) (v := ?vh4_26) rfl ?yh4_26 (by assumption) ?_
 case yh4_26 => (intro w hSw; (try dsimp only at hSw); go_simp; try with_reducible rfl)
 try simp only [Act.put, List.getElem_toArray, List.getElem_cons_succ, List.getElem_cons_zero, List.setIfInBounds_toArray, List.set_cons_zero, List.set_cons_succ]
 refine wpAnyH_done (by kernel_rfl) ?_ _
 go_wp2
 go_ret
 exact ⟨by rw [dec_ad]; rfl, F4.bel HB.out⟩
theorem rp_in (W : World) (v : Bool) (h l : Nat) (n : Int) (hh : h < 2 ^ 64) (hl : l < 2 ^ 64) :
  Calls Tryz.prog 138 #[pfV v h l n] W fun e w' => e = .returned (.bool (decide (0 ≤ n ∧ okP ⟨v, h, l⟩ n.toNat))) ∧ Below W.heap.size W w' := by
 by_cases hr : Ad.right ⟨v, h, l⟩
 ·by_cases h0 : 0 ≤ n
  ·by_cases hw : (Ad.wd ⟨v, h, l⟩ : Int) < n
   ·rw [decide_eq_false (fun x => by have := x.2.2.1; omega)]
    exact rp_3 W v h l n hr h0 hw
   ·have := rp_4 W v h l n n.toNat (by omega) hh hl hr (by omega)
    have e : decide (0 ≤ n ∧ okP ⟨v, h, l⟩ n.toNat) = decide (Ad.fst ⟨v, h, l⟩ n.toNat = ⟨v, h, l⟩) := by
     rw [decide_eq_decide]
     exact ⟨fun x => x.2.2.2, fun x => ⟨h0, hr, by omega, x⟩⟩
    rw [e]
    exact this
  ·rw [decide_eq_false (fun x => h0 x.1)]
   exact rp_2 W v h l n hr (by omega)
 ·rw [decide_eq_false (fun x => hr x.2.1)]
  exact rp_1 W v h l n hr
end Go.Proofs.YtdlcldjlfhmlgaaGreatDoor.A
