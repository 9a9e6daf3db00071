/- Layer 13: shapeOf, Text. -/
import Derived.Test.YtpognbkdafnfjaaDoorAcFh
import Derived.Test.YtpognbkdafnfjaaDoorAcRp
namespace Go.Proofs.YtpognbkdafnfjaaDoor
set_option linter.unusedVariables false
set_option linter.unusedSimpArgs false
open Go.RowKit

abbrev shV (s : Sh) : Value := .agg #[.string ⟨#[s.mark]⟩, .int .i64 (s.parts : Int), .int .i64 (s.bits : Int), .int .i64 (s.base : Int)]
abbrev shO (s : Sh) : Obj := .cells #[.string ⟨#[s.mark]⟩, .int .i64 (s.parts : Int), .int .i64 (s.bits : Int), .int .i64 (s.base : Int)] 66 (0, 0)
theorem sizeSh : (Tryd.prog.info? 66).map (·.size) = some 4 := by kernel_rfl
theorem results_sh {fn : Func} {p : Tmp} (h : fn.results = #[.cell p 66]) {tmps : Array Value} {W : World} {b : Nat} {x y z u : Value} (hp : tmps.getD p undef = .pointer (some ⟨b, 0, none⟩)) (hb : W.heap[b]? = some (.cells #[x, y, z, u] 66 (0, 0))) : (results fn tmps).run Tryd.prog W = .ok (.agg #[x, y, z, u]) W := by
  have hp' : tmps[p]?.getD undef = .pointer (some ⟨b, 0, none⟩) := by simpa using hp
  have hl : (loadVar 66 ⟨b, 0, none⟩).run Tryd.prog W = .ok (.agg #[x, y, z, u]) W := run_loadVar_row W b _ _ _ (0, 0) _ hb Tryd.underlying66 rfl sizeSh
  simp only [results, h]
  simp [hp', asAddr, hl]
set_option maxRecDepth 100000 in
theorem shape_in (w : World) (v : Bool) : Calls Tryd.prog 28 #[.bool v] w fun e w' => e = .returned (shV (shp v)) ∧ w' = w.alloc (shO (shp v)) := by
  cases v with
  | true =>
    go_enter Tryd.func28, Tryd.ntmps28
    go_wp2
    exact bodyPost_ret (results_sh Tryd.results28 rfl (heap_alloc_last _ _)) rfl ⟨rfl, rfl⟩
  | false =>
    go_enter Tryd.func28, Tryd.ntmps28
    go_wp2
    exact bodyPost_ret (results_sh Tryd.results28 rfl (heap_alloc_last _ _)) rfl ⟨rfl, rfl⟩
set_option maxRecDepth 100000 in
set_option maxHeartbeats 4000000 in
theorem text_no (w : World) (v : Bool) (h l : Nat) (hr : ¬ Ad.right ⟨v, h, l⟩) :
    Calls Tryd.prog 15 #[adV v h l] w fun e w' => e = .returned (.tuple #[.string ⟨#[]⟩, .int .i64 1]) ∧ Below w.heap.size w w' := by
  have H1 : Hid (∀ w, Calls Tryd.prog 17 #[adV v h l] w fun e w' => e = .returned (.bool false) ∧ w' = w.alloc (adO v h l)) := fun w => by have := right_in w v h l; rwa [decide_eq_false hr] at this
  clear hr
  go_enter Tryd.func15, Tryd.ntmps15
  go_wp2_with fail
  refine (H1.out _).mono ?_
  rintro e w1 ⟨rfl, rfl⟩
  go_wp2
  go_ret2
  exact ⟨rfl, by go_grown⟩
theorem pcs_prt {a : Ad} (ha : a.ok) {i : Nat} (hi : i < (shp a.v6).parts) : pcs a (i * (shp a.v6).bits) (shp a.v6).bits = prt a i := by
  have hw := sh_total a
  obtain ⟨h1, h2⟩ := ha
  have key : ∀ (B r : Nat), (64 ≤ r → a.hi / 2 ^ (r - 64) % 2 ^ B = a.num / 2 ^ r % 2 ^ B) ∧ (r + B ≤ 64 → a.lo / 2 ^ r % 2 ^ B = a.num / 2 ^ r % 2 ^ B) := fun B r => by
    constructor
    · intro h64
      congr 1
      unfold Ad.num
      obtain ⟨d, rfl⟩ : ∃ d, r = 64 + d := ⟨r - 64, by omega⟩
      rw [Nat.add_sub_cancel_left, Nat.pow_add, ← Nat.div_div_eq_div_mul, Nat.add_comm, Nat.add_mul_div_right _ _ (Nat.two_pow_pos 64), Nat.div_eq_of_lt h2, Nat.zero_add]
    · intro hle
      unfold Ad.num
      obtain ⟨d, hd⟩ : ∃ d, 64 = r + (B + d) := ⟨64 - r - B, by omega⟩
      rw [hd, Nat.pow_add, ← Nat.mul_assoc, Nat.mul_comm a.hi, Nat.mul_assoc, Nat.add_comm, Nat.add_mul_div_left _ _ (Nat.two_pow_pos r), Nat.pow_add, ← Nat.mul_assoc, Nat.mul_comm a.hi, Nat.mul_assoc, Nat.add_mul_mod_self_left]
  unfold pcs prt
  have hr : a.wd - i * (shp a.v6).bits - (shp a.v6).bits = (shp a.v6).bits * ((shp a.v6).parts - 1 - i) := by
    rw [← hw]
    cases hv : a.v6 <;> rw [hv] at hi <;> simp [shp] at hi ⊢ <;> omega
  rw [hr]
  split
  · exact (key _ _).1 (by assumption)
  · refine (key _ _).2 ?_
    rename_i hn
    cases hv : a.v6 <;> rw [hv] at hn hi <;> simp [shp] at hn hi ⊢ <;> omega
/-- all but one block stays. -/
structure Ko (V : World) (P : Nat) (u : World) : Prop where
  os : u.os = V.os
  tape : u.tape = V.tape
  output : u.output = V.output
  size : V.heap.size ≤ u.heap.size
  same : ∀ b, b < V.heap.size → b ≠ P → u.heap[b]? = V.heap[b]?
theorem Ko.refl (V : World) (P : Nat) : Ko V P V := ⟨rfl, rfl, rfl, Nat.le_refl _, fun _ _ _ => rfl⟩
theorem Ko.drew {V u : World} {P : Nat} (h : Ko V P u) : Ko V P u.drew := ⟨h.os, h.tape, h.output, h.size, h.same⟩
theorem Ko.blk {V u u' : World} {P : Nat} (h : Ko V P u) (hb : Below u.heap.size u u') : Ko V P u' :=
  ⟨hb.os.trans h.os, hb.tape.trans h.tape, hb.output.trans h.output, Nat.le_trans h.size hb.size, fun b h1 h2 => (hb.block b (by have := h.size; omega)).trans (h.same b h1 h2)⟩
theorem Ko.set {V u : World} {P : Nat} (h : Ko V P u) (i : Nat) (x : Value) : Ko V P (u.setCell ⟨P, i, none⟩ x) :=
  ⟨h.os, h.tape, h.output, by rw [show (u.setCell ⟨P, i, none⟩ x).heap.size = u.heap.size by simp [World.setCell]]; exact h.size, fun b h1 h2 => (Below.heap_setCell _ _ _ _ h2).trans (h.same b h1 h2)⟩
theorem Ko.bel {W V u : World} {P : Nat} (h : Ko V P u) (hb : Below W.heap.size W V) (hP : W.heap.size ≤ P) : Below W.heap.size W u :=
  hb.trans ⟨h.os, h.tape, h.output, h.size, fun b hlt => h.same b (by have := hb.size; omega) (by omega)⟩
theorem Ko.cell {V u : World} {P : Nat} (h : Ko V P u) {b i : Nat} {x : Value} (hc : V.cell? ⟨b, i, none⟩ = some x) (hb : b < V.heap.size) (hP : b ≠ P) : u.cell? ⟨b, i, none⟩ = some x :=
  (World.cell?_of_block (h.same b hb hP)).trans hc
def stS (a x : Value) : Sem Unit := Instr.storeAt 9 a x
theorem storeAt_s (a x : Value) : Instr.storeAt 9 a x = stS a x := rfl
def sv (l : List (List UInt8)) : List Value := l.map fun x => .string ⟨x.toArray⟩
/-- the first parts are there, the others empty. -/
def ptR (a : Ad) (k : Nat) : Array Value := (sv ((pts a).take k) ++ List.replicate ((shp a.v6).parts - k) (Value.string ⟨#[]⟩)).toArray
end Go.Proofs.YtpognbkdafnfjaaDoor
