/- Layer 13: Right, width, cleared, first, piece. -/
import Derived.Handy
import Derived.BigQuiet
import Derived.BigRegion
import Derived.Deep.RegionWith
import Derived.Deep.RegionHeld3
import Derived.Deep.Cut
import Derived.Test.YtpognbkdafnfjaaDoorAcT
namespace Go.Proofs.YtpognbkdafnfjaaDoor
set_option linter.unusedVariables false
open Go.RowKit

theorem Hid.mk {p : Prop} (h : p) : Hid p := h
abbrev pt (b : Nat) : Value := .pointer (some ⟨b, 0, none⟩)
def adC (a : Ad) : Array Value := #[.bool a.v6, .int .u64 a.hi, .int .u64 a.lo]
abbrev adO (v : Bool) (h l : Nat) : Obj := .cells #[.bool v, .int .u64 h, .int .u64 l] 32 (0, 0)
abbrev adV (v : Bool) (h l : Nat) : Value := .agg #[.bool v, .int .u64 h, .int .u64 l]

theorem heap_alloc_last (w : World) (o : Obj) : (w.alloc o).heap[w.heap.size]? = some o := by
  show (w.heap.push o)[w.heap.size]? = _
  simp
theorem cell_of_heap {w : World} {b i : Nat} {c : Array Value} {t : TypeId} {f : Nat × Nat} {v : Value} (h : w.heap[b]? = some (.cells c t f)) (hi : c[i]? = some v) : w.cell? ⟨b, i, none⟩ = some v := by
  unfold World.cell?
  rw [show (⟨b, i, none⟩ : Addr).block = b from rfl, h]
  simpa using hi

set_option maxRecDepth 100000 in
theorem right_in (w : World) (v : Bool) (h l : Nat) :
    Calls Tryd.prog 17 #[adV v h l] w fun e w' => e = .returned (.bool (decide (Ad.right ⟨v, h, l⟩))) ∧ w' = w.alloc (adO v h l) := by
  cases v with
  | true =>
    go_enter Tryd.func17, Tryd.ntmps17
    go_wp2
    go_ret
    exact ⟨by simp [Ad.right], rfl⟩
  | false =>
    by_cases h0 : h = 0
    · subst h0
      go_enter Tryd.func17, Tryd.ntmps17
      go_wp2
      go_ret
      have e : decide (Ad.right ⟨false, 0, l⟩) = ((l : Int) / 4294967296 == 0) := by
        simp only [Ad.right, Bool.false_eq_true, false_or, true_and, Nat.reducePow]
        rw [Bool.eq_iff_iff]
        simp only [beq_iff_eq, decide_eq_true_eq]
        omega
      exact ⟨by rw [e]; rfl, rfl⟩
    · go_enter Tryd.func17, Tryd.ntmps17
      go_wp2
      go_ret
      exact ⟨by simp [Ad.right, h0], rfl⟩

set_option maxRecDepth 100000 in
theorem width_in (w : World) (v : Bool) (h l : Nat) :
    Calls Tryd.prog 33 #[adV v h l] w fun e w' => e = .returned (.int .i64 (Ad.wd ⟨v, h, l⟩ : Nat)) ∧ w' = w.alloc (adO v h l) := by
  cases v with
  | true =>
    go_enter Tryd.func33, Tryd.ntmps33
    go_wp2
    go_ret
    exact ⟨rfl, rfl⟩
  | false =>
    go_enter Tryd.func33, Tryd.ntmps33
    go_wp2
    go_ret
    exact ⟨rfl, rfl⟩

theorem pow_min (x k : Nat) (hx : x < 2 ^ 64) : x / 2 ^ min k 64 * 2 ^ min k 64 = clr x k := by
  by_cases h : k ≤ 64
  · rw [Nat.min_eq_left h]; rfl
  · rw [Nat.min_eq_right (by omega), Nat.div_eq_of_lt hx, clr_big (Nat.lt_of_lt_of_le hx (Nat.pow_le_pow_right (by decide) (by omega)))]
    try simp
theorem wrapU {x : Nat} (h : x < 2 ^ 64) : IntKind.u64.wrap (x : Int) = x := by
  rw [IntKind.wrap_u64]
  omega
theorem wrapI {x : Int} (h1 : -9223372036854775808 ≤ x) (h2 : x ≤ 9223372036854775807) : IntKind.i64.wrap x = x := by
  rw [IntKind.wrap_i64]
  omega
theorem clr_int (x k : Nat) (hx : x < 2 ^ 64) : IntKind.u64.wrap ((x : Int) / 2 ^ min k 64 * 2 ^ min k 64) = ((clr x k : Nat) : Int) := by
  have e : ((x : Int) / 2 ^ min k 64 * 2 ^ min k 64) = ((x / 2 ^ min k 64 * 2 ^ min k 64 : Nat) : Int) := by
    rw [Int.natCast_mul, Int.natCast_ediv, Int.natCast_pow]; try rfl
  rw [e, pow_min x k hx, wrapU (Nat.lt_of_le_of_lt (clr_le _ _) hx)]
set_option maxRecDepth 100000 in
theorem cleared_in (w : World) (x k : Nat) (hx : x < 2 ^ 64) (hk : k ≤ 128) :
    Calls Tryd.prog 35 #[.int .u64 (x : Int), .int .i64 (k : Int)] w fun e w' => e = .returned (.int .u64 ((clr x k : Nat) : Int)) ∧ w' = w := by
  go_enter Tryd.func35, Tryd.ntmps35
  go_wp2
  go_ret
  exact ⟨by rw [clr_int x k hx]; rfl, rfl⟩

theorem sizeAd : (Tryd.prog.info? 32).map (·.size) = some 3 := by kernel_rfl
theorem results_ad {fn : Func} {p : Tmp} (h : fn.results = #[.cell p 32]) {tmps : Array Value} {W : World} {b : Nat} {x y z : Value} (hp : tmps.getD p undef = .pointer (some ⟨b, 0, none⟩)) (hb : W.heap[b]? = some (.cells #[x, y, z] 32 (0, 0))) : (results fn tmps).run Tryd.prog W = .ok (.agg #[x, y, z]) W := by
  have hp' : tmps[p]?.getD undef = .pointer (some ⟨b, 0, none⟩) := by simpa using hp
  have hl : (loadVar 32 ⟨b, 0, none⟩).run Tryd.prog W = .ok (.agg #[x, y, z]) W := run_loadVar_row W b _ _ _ (0, 0) _ hb Tryd.underlying32 rfl sizeAd
  simp only [results, h]
  simp [hp', asAddr, hl]

theorem heap_mid (w : World) (a b c : Obj) : (((w.alloc a).alloc b).alloc c).drew.heap[w.heap.size + 1]? = some b := by
  show (((w.heap.push a).push b).push c)[w.heap.size + 1]? = _
  simp [Array.getElem_push]
end Go.Proofs.YtpognbkdafnfjaaDoor
