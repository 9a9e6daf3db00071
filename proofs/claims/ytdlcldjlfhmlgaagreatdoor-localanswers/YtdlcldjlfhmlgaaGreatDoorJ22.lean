/- Texts of this proof, joined: AhEq, AhRp, AhPc, AhTr, AhNf, AhNa. -/
import Derived.ChangeKeysEq
import Derived.Test.YtdlcldjlfhmlgaaGreatDoorJ21
set_option linter.unusedVariables false
set_option linter.unusedSimpArgs false
/- Layer 13: addresses and prefixes compared. -/
namespace Go.Proofs.YtdlcldjlfhmlgaaGreatDoor.A
open Go.RowKit
abbrev pfV (v : Bool) (h l : Nat) (n : Int) : Value := .agg #[.bool v, .int .u64 h, .int .u64 l, .int .i64 n]
theorem eqFields_cons {d : Nat} {xs ys : Array Value} {f : Field} {fs : List Field} (h : f.name ≠ "_") : Op.eqFields d xs ys (f :: fs) = (do
  let a ← part f.type xs f.offset
  let b ← part f.type ys f.offset
  let r ← Op.equalIn d f.type a b
  if (!r) = true then pure false else Op.eqFields d xs ys fs) := by rw [Op.eqFields, if_pos h]
theorem bq (a b : Nat) : ((a : Int) == (b : Int)) = decide (a = b) := by
 rw [Bool.eq_iff_iff]
 simp only [beq_iff_eq, decide_eq_true_eq]
 omega
theorem adEq_run (d : Nat) (W : World) (v v' : Bool) (h l h' l' : Nat) : (Op.equalIn (d + 3) 66 (adV v h l) (adV v' h' l')).run Tryz.prog W = .ok (decide ((⟨v, h, l⟩ : Ad) = ⟨v', h', l'⟩)) W := by
 have hu : Tryz.prog.underlying 66 = some (.struct (Tryz.prog.fieldsOf 66)) := by kernel_rfl
 have hst : Tryz.prog.stoodInHeld 66 = false := by kernel_rfl
 obtain ⟨f1, f2, f3, hf, n1, n2, n3, t1, t2, t3, o1, o2, o3⟩ : ∃ f1 f2 f3 : Field, (Tryz.prog.fieldsOf 66).toList = [f1, f2, f3] ∧ f1.name = "V6" ∧ f2.name = "Hi" ∧ f3.name = "Lo" ∧ f1.type = 4 ∧ f2.type = 64 ∧ f3.type = 64 ∧ f1.offset = 0 ∧ f2.offset = 1 ∧ f3.offset = 2 :=
  ⟨(Tryz.prog.fieldsOf 66)[0]!, (Tryz.prog.fieldsOf 66)[1]!, (Tryz.prog.fieldsOf 66)[2]!, by kernel_rfl, by kernel_rfl, by kernel_rfl, by kernel_rfl, by kernel_rfl, by kernel_rfl, by kernel_rfl, by kernel_rfl, by kernel_rfl, by kernel_rfl⟩
 replace n1 : f1.name ≠ "_" := by rw [n1]; simp
 replace n2 : f2.name ≠ "_" := by rw [n2]; simp
 replace n3 : f3.name ≠ "_" := by rw [n3]; simp
 have ub : Tryz.prog.underlying 4 = some .bool := by kernel_rfl
 have uu : Tryz.prog.underlying 64 = some (.int .u64) := by kernel_rfl
 have pb : Tryz.prog.plainKey 4 = true := by kernel_rfl
 have pu : Tryz.prog.plainKey 64 = true := by kernel_rfl
 have q0 : ∀ v h l, (part 4 #[.bool v, .int .u64 ((h : Nat) : Int), .int .u64 ((l : Nat) : Int)] 0).run Tryz.prog W = .ok (.bool v) W := fun v h l => run_part_plain W pb rfl
 have q1 : ∀ v h l, (part 64 #[.bool v, .int .u64 ((h : Nat) : Int), .int .u64 ((l : Nat) : Int)] 1).run Tryz.prog W = .ok (.int .u64 h) W := fun v h l => run_part_plain W pu rfl
 have q2 : ∀ v h l, (part 64 #[.bool v, .int .u64 ((h : Nat) : Int), .int .u64 ((l : Nat) : Int)] 2).run Tryz.prog W = .ok (.int .u64 l) W := fun v h l => run_part_plain W pu rfl
 have hd : decide ((⟨v, h, l⟩ : Ad) = ⟨v', h', l'⟩) = ((v == v') && (decide (h = h') && decide (l = l'))) := by
  rw [Bool.eq_iff_iff]
  simp
 rw [hd, run_equalIn_struct W (d + 2) _ _ _ hu hst, hf]
 rw [eqFields_cons n1, t1, o1, Sem.run_bind, q0, Result.andThen_ok, Sem.run_bind, q0, Result.andThen_ok, Sem.run_bind, run_equalIn_bool W (d + 1) _ _ _ ub, Result.andThen_ok]
 by_cases e1 : v = v'
 ·subst e1
  rw [beq_self_eq_true, if_neg (by simp), eqFields_cons n2, t2, o2, Sem.run_bind, q1, Result.andThen_ok, Sem.run_bind, q1, Result.andThen_ok, Sem.run_bind, run_equalIn_int W (d + 1) _ .u64 .u64 _ _ uu, Result.andThen_ok, bq]
  by_cases e2 : h = h'
  ·rw [decide_eq_true e2, if_neg (by simp), eqFields_cons n3, t3, o3, Sem.run_bind, q2, Result.andThen_ok, Sem.run_bind, q2, Result.andThen_ok, Sem.run_bind, run_equalIn_int W (d + 1) _ .u64 .u64 _ _ uu, Result.andThen_ok, bq]
   by_cases e3 : l = l'
   ·rw [decide_eq_true e3, if_neg (by simp), Op.eqFields, Sem.run_pure]; rfl
   ·rw [decide_eq_false e3, if_pos (by simp), Sem.run_pure]; rfl
  ·rw [decide_eq_false e2, if_pos (by simp), Sem.run_pure]; rfl
 ·rw [beq_eq_false_iff_ne.2 e1, if_pos (by simp), Sem.run_pure]; rfl
theorem eqAd (W : World) (v v' : Bool) (h l h' l' : Nat) : (binOp .eql 66 (adV v h l) (adV v' h' l')).run Tryz.prog W = .ok (.bool (decide ((⟨v, h, l⟩ : Ad) = ⟨v', h', l'⟩))) W := by
 rw [run_eql_struct, adEq_run 9997 W]
 rfl
theorem pfEq_run (d : Nat) (W : World) (v v' : Bool) (h l h' l' : Nat) (n n' : Int) : (Op.equalIn (d + 4) 75 (pfV v h l n) (pfV v' h' l' n')).run Tryz.prog W = .ok (decide ((⟨v, h, l⟩ : Ad) = ⟨v', h', l'⟩ ∧ n = n')) W := by
 have hu : Tryz.prog.underlying 75 = some (.struct (Tryz.prog.fieldsOf 75)) := by kernel_rfl
 have hst : Tryz.prog.stoodInHeld 75 = false := by kernel_rfl
 obtain ⟨f1, f2, hf, n1, n2, t1, t2, o1, o2⟩ : ∃ f1 f2 : Field, (Tryz.prog.fieldsOf 75).toList = [f1, f2] ∧ f1.name = "Addr" ∧ f2.name = "Bits" ∧ f1.type = 66 ∧ f2.type = 3 ∧ f1.offset = 0 ∧ f2.offset = 3 :=
  ⟨(Tryz.prog.fieldsOf 75)[0]!, (Tryz.prog.fieldsOf 75)[1]!, by kernel_rfl, by kernel_rfl, by kernel_rfl, by kernel_rfl, by kernel_rfl, by kernel_rfl, by kernel_rfl⟩
 replace n1 : f1.name ≠ "_" := by rw [n1]; simp
 replace n2 : f2.name ≠ "_" := by rw [n2]; simp
 have ui : Tryz.prog.underlying 3 = some (.int .i64) := by kernel_rfl
 have pi : Tryz.prog.plainKey 3 = true := by kernel_rfl
 have ua : Tryz.prog.underlying 66 = some (.struct (Tryz.prog.fieldsOf 66)) := by kernel_rfl
 have sa : (sizeOf 66).run Tryz.prog W = .ok 3 W := by kernel_rfl
 have q0 : ∀ v h l n, (part 66 #[.bool v, .int .u64 ((h : Nat) : Int), .int .u64 ((l : Nat) : Int), .int .i64 n] 0).run Tryz.prog W = .ok (adV v h l) W := fun v h l n => by
  unfold part isAgg
  simp only [Sem.run_bind, run_underlying ua, Result.andThen_ok, Sem.run_pure, if_true, sa, Nat.zero_add]
  rfl
 have q1 : ∀ v h l n, (part 3 #[.bool v, .int .u64 ((h : Nat) : Int), .int .u64 ((l : Nat) : Int), .int .i64 n] 3).run Tryz.prog W = .ok (.int .i64 n) W := fun v h l n => run_part_plain W pi rfl
 rw [run_equalIn_struct W (d + 3) _ _ _ hu hst, hf]
 rw [eqFields_cons n1, t1, o1, Sem.run_bind, q0, Result.andThen_ok, Sem.run_bind, q0, Result.andThen_ok, Sem.run_bind, adEq_run d W, Result.andThen_ok]
 by_cases e1 : (⟨v, h, l⟩ : Ad) = ⟨v', h', l'⟩
 ·rw [decide_eq_true e1, if_neg (by simp), eqFields_cons n2, t2, o2, Sem.run_bind, q1, Result.andThen_ok, Sem.run_bind, q1, Result.andThen_ok, Sem.run_bind, run_equalIn_int W (d + 2) _ .i64 .i64 _ _ ui, Result.andThen_ok]
  by_cases e2 : n = n'
  ·rw [e2, beq_self_eq_true, if_neg (by simp), Op.eqFields, Sem.run_pure, decide_eq_true (show _ ∧ n' = n' from ⟨e1, rfl⟩)]
  ·rw [beq_eq_false_iff_ne.2 e2, if_pos (by simp), Sem.run_pure, decide_eq_false (fun x => e2 x.2)]
 ·rw [decide_eq_false e1, if_pos (by simp), Sem.run_pure, decide_eq_false (fun x => e1 x.1)]
theorem eqPf (W : World) (v v' : Bool) (h l h' l' : Nat) (n n' : Int) : (binOp .eql 75 (pfV v h l n) (pfV v' h' l' n')).run Tryz.prog W = .ok (.bool (decide ((⟨v, h, l⟩ : Ad) = ⟨v', h', l'⟩ ∧ n = n'))) W := by
 rw [run_eql_struct, pfEq_run 9996 W]
 rfl
def adEqV (x y : Value) : Sem Value := binOp .eql 66 x y
def pfEqV (x y : Value) : Sem Value := binOp .eql 75 x y
theorem bin_ad (x y : Value) : binOp .eql 66 x y = adEqV x y := rfl
theorem bin_pf (x y : Value) : binOp .eql 75 x y = pfEqV x y := rfl
theorem adEqV_run (W : World) (v v' : Bool) (h l h' l' : Nat) : (adEqV (adV v h l) (adV v' h' l')).run Tryz.prog W = .ok (.bool (decide ((⟨v, h, l⟩ : Ad) = ⟨v', h', l'⟩))) W := eqAd W v v' h l h' l'
theorem pfEqV_run (W : World) (v v' : Bool) (h l h' l' : Nat) (n n' : Int) : (pfEqV (pfV v h l n) (pfV v' h' l' n')).run Tryz.prog W = .ok (.bool (decide ((⟨v, h, l⟩ : Ad) = ⟨v', h', l'⟩ ∧ n = n'))) W := eqPf W v v' h l h' l' n n'
end Go.Proofs.YtdlcldjlfhmlgaaGreatDoor.A
/- Layer 13: rightPrefix, Holds. -/
namespace Go.Proofs.YtdlcldjlfhmlgaaGreatDoor.A
open Go.RowKit
attribute [local go_sem ↓] bin_ad bin_pf
attribute [local go_sem] adEqV_run pfEqV_run
end Go.Proofs.YtdlcldjlfhmlgaaGreatDoor.A
/- Layer 13: piece. -/
namespace Go.Proofs.YtdlcldjlfhmlgaaGreatDoor.A
open Go.RowKit
end Go.Proofs.YtdlcldjlfhmlgaaGreatDoor.A
/- Layer 13: a tree of bits in memory: facts alone. -/
namespace Go.Proofs.YtdlcldjlfhmlgaaGreatDoor.A
open Go.RowKit
end Go.Proofs.YtdlcldjlfhmlgaaGreatDoor.A
/- Layer 13: find: the way of an address down a tree. -/
namespace Go.Proofs.YtdlcldjlfhmlgaaGreatDoor.A
open Go.RowKit
end Go.Proofs.YtdlcldjlfhmlgaaGreatDoor.A
/- Layer 13: add: a rule is laid into a tree. -/
namespace Go.Proofs.YtdlcldjlfhmlgaaGreatDoor.A
open Go.RowKit
end Go.Proofs.YtdlcldjlfhmlgaaGreatDoor.A
