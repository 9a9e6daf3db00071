/- Texts of this proof, joined: LeA, LeF, LdV, AhF, AhR, AhT. -/
import Derived.Test.YtdlcldjlfhmlgaaGreatDoorJ19
import Derived.Test.YtdlcldjlfhmlgaaGreatDoorJ10
import Derived.Test.YtdlcldjlfhmlgaaGreatDoorJ3
import Derived.Test.YtdlcldjlfhmlgaaGreatDoorJ13
import Derived.Test.YtdlcldjlfhmlgaaGreatDoorJ18
import Derived.WalkKit
import Derived.WalkSpells
import Derived.WalkLawsBesides
import Derived.Below
import Derived.Laws.AppendOwn
import Derived.Test.YtdlcldjlfhmlgaaGreatDoorRows
import Derived.Lib.Bytealg
import Derived.Lib.Join
import Derived.Lib.ItoaNum
set_option linter.unusedVariables false
set_option linter.unusedSimpArgs false
/- The document's calls on names (guidepostref01), of any bytes. -/
namespace Go.Proofs.YtdlcldjlfhmlgaaGreatDoor
open Go.RowKit
theorem rright_in (s : ByteArray) (hs : s.size ≤ maxLen) (w : World) : Calls Tryz.prog 28 #[.string s] w fun e w' => e = .returned (.bool (isN s)) ∧ Below w.heap.size w w' := by
 by_cases h : IsName s
 ·rw [isN_yes h]
  obtain ⟨ls, ho, rfl⟩ := h
  exact rRight_yes ls ho w
 ·rw [isN_no h]; exact rRight_no s hs h w
theorem rlower_in (s : ByteArray) (hs : s.size ≤ maxLen) (w : World) : Calls Tryz.prog 64 #[.string s] w fun e w' => e = .returned (.string (lowF s)) ∧ Below w.heap.size w w' := by
 by_cases h : IsName s
 ·obtain ⟨ls, ho, rfl⟩ := h
  rw [lowF_nm ho]
  exact U.rLower_yes ls ho w
 ·rw [lowF_no h]; exact U.rLower_no s hs h w
theorem runder_in (s t : ByteArray) (hs : s.size ≤ maxLen) (ht : t.size ≤ maxLen) (w : World) : Calls Tryz.prog 31 #[.string s, .string t] w fun e w' => e = .returned (.bool (undF s t)) ∧ Below w.heap.size w w' := by
 by_cases h : IsName s ∧ IsName t
 ·obtain ⟨⟨a, ha, rfl⟩, ⟨b, hb, rfl⟩⟩ := h
  rw [undF_nm ha hb]; exact U.rUnder_yes a b ha hb w
 ·rw [undF_no h]; exact U.rUnder_no s t hs ht h w
theorem requal_in (s t : ByteArray) (hs : s.size ≤ maxLen) (ht : t.size ≤ maxLen) (w : World) : Calls Tryz.prog 29 #[.string s, .string t] w fun e w' => e = .returned (.bool (eqF s t)) ∧ Below w.heap.size w w' := by
 by_cases h : IsName s ∧ IsName t
 ·obtain ⟨⟨a, ha, rfl⟩, ⟨b, hb, rfl⟩⟩ := h
  rw [eqF_nm ha hb]; exact U.rEqual_yes a b ha hb w
 ·rw [eqF_no h]; exact U.rEqual_no s t hs ht h w
open Classical in
noncomputable def manyF (s : ByteArray) : Nat := if IsName s then (lb s).length else 0
theorem manyF_nm {a : N3} (h : OkN a) : manyF (nm a) = a.length := by
 unfold manyF
 rw [if_pos ⟨a, h, rfl⟩, lb_nm h]
end Go.Proofs.YtdlcldjlfhmlgaaGreatDoor
/- Layer 14: what the document says that zones answer, as lists, is what the program's lists say. -/
namespace Go.Proofs.YtdlcldjlfhmlgaaGreatDoor
open Go.RowKit
theorem eq_und {a b : N3} (h : eqB a b = true) : undB a b = true := by
 rw [undB_iff]
 unfold eqB at h
 rw [of_decide_eq_true h]
 exact List.suffix_refl _
section
variable {α : Type} {lt : α → α → Bool}
end
end Go.Proofs.YtdlcldjlfhmlgaaGreatDoor
/- Layer 14: local zones as they come in. -/
namespace Go.Proofs.YtdlcldjlfhmlgaaGreatDoor
open Go.RowKit
theorem c_lo : Tryz.prog.cellsOf 26 = 3 := by kernel_rfl
def LcAt (W : World) (cs : List Value) (z : Lc) : Prop := ∃ qr cr, cs = [.string z.nm, .int .i64 z.kd, .slice qr z.rs.length cr] ∧ RcsAt W qr z.rs
open Go.ChangeShapes Go.WideShapes in
set_option maxRecDepth 100000 in
theorem trod_lc {H : Type} {enc : TypeId × Value → H} {W : World} {fuel : Nat} {cs : List Value} {x : DataW H × List MemPlace} (h : DataW.trod enc Tryz.prog W 0 (fun _ => true) true fuel 26 cs = some x) : ∃ z : Lc, LcAt W cs z ∧ z.nm.size ≤ maxLen ∧ RIn z.rs ∧ z.rs.length ≤ maxLen ∧ I64 z.kd := by
 obtain ⟨y0, y1, y2, k, _, hlc, t0, t1, t2⟩ := Go.Deep.trod_struct3 Tryz.underlying26 h
 rw [c_lo] at hlc
 match cs, hlc with
 | [v0, v1, v2], _ =>
  have t0' : DataW.trod enc Tryz.prog W 0 (fun _ => true) true k 9 [v0] = some y0 := t0
  have t1' : DataW.trod enc Tryz.prog W 0 (fun _ => true) true k 3 [v1] = some y1 := t1
  have t2' : DataW.trod enc Tryz.prog W 0 (fun _ => true) true k 24 [v2] = some y2 := t2
  obtain ⟨s0, q0, _, w0⟩ := DataW.trod_string (t := 9) Tryz.underlying9 t0'
  obtain ⟨s1, q1, _, w1⟩ := DataW.trod_int (t := 3) (k := .i64) Tryz.underlying3 t1'
  have hv : ∃ a len cap, v2 = .slice a len cap := by
   rcases Go.Deep.open_slice Tryz.underlying24 t2' with ⟨hcs, hx⟩ | ⟨a, len', cap', m, n, D, Pl, hcs, _⟩
   ·simp at hcs; exact ⟨_, _, _, hcs⟩
   ·simp at hcs; exact ⟨_, _, _, hcs⟩
  obtain ⟨a, len, cap, rfl⟩ := hv
  obtain ⟨rs, hl, hat, hin, hc⟩ := open_recs t2'
  simp at q0 q1
  subst hl
  refine ⟨⟨s0, s1, rs⟩, ⟨a, cap, by rw [q0, q1], hat⟩, w0, hin, by simp only; omega, Go.bounds_i64 w1⟩
open Go.ChangeShapes Go.WideShapes in
set_option maxRecDepth 100000 in
theorem open_locs {H : Type} {enc : TypeId × Value → H} {W : World} {a0 : Option Addr} {len cap fuel : Nat} {x : DataW H × List MemPlace}
  (hf : DataW.trod enc Tryz.prog W 0 (fun _ => true) true fuel 22 [.slice a0 len cap] = some x) :
  ∃ rs : List Lc, rs.length = len ∧ LcsAt W a0 rs ∧ LIn rs ∧ (len ≤ cap ∧ cap ≤ maxLen ∧ (a0 = none → cap = 0)) := by
 rcases Go.Deep.open_slice Tryz.underlying22 hf with ⟨hcs, hx⟩ | ⟨a, len', cap', m, n, D, Pl, hcs, _, hl, hm, hmm, hx, hall⟩
 ·simp at hcs
  obtain ⟨rfl, rfl, rfl⟩ := hcs
  exact ⟨[], rfl, fun j hj => by simp at hj, fun r hr => by simp at hr, by omega, by unfold maxLen; omega, fun _ => rfl⟩
 ·simp at hcs
  obtain ⟨rfl, rfl, rfl⟩ := hcs
  simp only [if_true] at hmm
  subst hmm
  rw [c_lo] at hall
  obtain ⟨b, off, spot⟩ := a
  have key : ∀ i, i < len → ∃ r : Lc, (spot = none ∧ b < W.heap.size ∧ ∃ qr cr, RcsAt W qr r.rs ∧ ∀ k, k < 3 → W.cell? ⟨b, off + i * 3 + k, none⟩ = [Value.string r.nm, .int .i64 r.kd, .slice qr r.rs.length cr][k]?) ∧ (r.nm.size ≤ maxLen ∧ RIn r.rs ∧ r.rs.length ≤ maxLen ∧ I64 r.kd) := fun i hi => by
   obtain ⟨cs', h1, h2⟩ := hall i (by omega)
   obtain ⟨_, hlen, hcell⟩ := World.cells?_some h1
   obtain ⟨r, ⟨qr, cr, rfl, hat⟩, hr⟩ := trod_lc h2
   have hspot : spot = none := by
    obtain ⟨cs0, h10, _⟩ := hall 0 (by omega)
    obtain ⟨_, hl0, hc0⟩ := World.cells?_some h10
    have h00 := hc0 0 (by omega)
    rw [List.getElem?_eq_getElem (by omega)] at h00
    simpa [Addr.add] using World.cell?_spot h00
   subst hspot
   have hk : ∀ k, k < 3 → W.cell? ⟨b, off + i * 3 + k, none⟩ = [Value.string r.nm, .int .i64 r.kd, .slice qr r.rs.length cr][k]? := fun k hk => by
    have := hcell k hk
    rw [Go.Deep.add_add, lad_off, ← Nat.add_assoc] at this
    exact this
   exact ⟨r, ⟨rfl, lcellB ((hk 0 (by omega)).trans (show [Value.string r.nm, .int .i64 r.kd, .slice qr r.rs.length cr][0]? = some _ from rfl)), qr, cr, hat, hk⟩, hr⟩
  obtain ⟨ls, hlen, hr⟩ := llist_of len key
  refine ⟨ls, hlen, fun j hj => ?_, fun d hd => ?_, hl, hm, fun h => by cases h⟩
  ·obtain ⟨⟨hs, hb, qr, cr, hat, hk⟩, _⟩ := hr j hj
   subst hs
   exact ⟨b, off, qr, cr, rfl, hb, hk 0 (by omega), hk 1 (by omega), hk 2 (by omega), hat⟩
  ·obtain ⟨j, hj, rfl⟩ := List.getElem_of_mem hd
   exact (hr j hj).2
end Go.Proofs.YtdlcldjlfhmlgaaGreatDoor
/- Layer 13: addresses, their bits, prefixes: facts alone. -/
namespace Go.Proofs.YtdlcldjlfhmlgaaGreatDoor.A
structure Ad where
 v6 : Bool
 hi : Nat
 lo : Nat
deriving DecidableEq
def Ad.ok (a : Ad) : Prop := a.hi < 2 ^ 64 ∧ a.lo < 2 ^ 64
instance (a : Ad) : Decidable a.ok := inferInstanceAs (Decidable (_ ∧ _))
def Ad.right (a : Ad) : Prop := a.v6 = true ∨ (a.hi = 0 ∧ a.lo < 2 ^ 32)
instance (a : Ad) : Decidable a.right := inferInstanceAs (Decidable (_ ∨ _))
def Ad.wd (a : Ad) : Nat := if a.v6 then 128 else 32
def Ad.num (a : Ad) : Nat := a.hi * 2 ^ 64 + a.lo
def Ad.bt (a : Ad) (k : Nat) : Bool := a.num.testBit (a.wd - 1 - k)
def clr (n k : Nat) : Nat := n / 2 ^ k * 2 ^ k
def Ad.fst (a : Ad) (n : Nat) : Ad := ⟨a.v6, clr a.hi (a.wd - n - 64), clr a.lo (a.wd - n)⟩
theorem Ad.eta {a : Ad} {v : Bool} (h : a.v6 = v) : a = ⟨v, a.hi, a.lo⟩ := by subst h; rfl
theorem clr_zero (n : Nat) : clr n 0 = n := by simp [clr]
theorem clr_le (n k : Nat) : clr n k ≤ n := Nat.div_mul_le_self _ _
theorem clr_big {n k : Nat} (h : n < 2 ^ k) : clr n k = 0 := by simp [clr, Nat.div_eq_of_lt h]
theorem clr_div (n k : Nat) : clr n k / 2 ^ k = n / 2 ^ k := by
 unfold clr
 exact Nat.mul_div_cancel _ (Nat.two_pow_pos k)
theorem clr_eq {n m k : Nat} : clr n k = clr m k ↔ n / 2 ^ k = m / 2 ^ k := by
 constructor
 ·intro h
  rw [← clr_div n k, h, clr_div]
 ·intro h
  unfold clr
  rw [h]
theorem div_bits {n m k : Nat} : n / 2 ^ k = m / 2 ^ k ↔ ∀ i, k ≤ i → n.testBit i = m.testBit i := by
 constructor
 ·intro h i hi
  have h1 : (n / 2 ^ k).testBit (i - k) = n.testBit (i - k + k) := Nat.testBit_div_two_pow ..
  have h2 : (m / 2 ^ k).testBit (i - k) = m.testBit (i - k + k) := Nat.testBit_div_two_pow ..
  rw [show i - k + k = i by omega] at h1 h2
  rw [← h1, ← h2, h]
 ·intro h
  apply Nat.eq_of_testBit_eq
  intro i
  rw [Nat.testBit_div_two_pow, Nat.testBit_div_two_pow]
  exact h _ (by omega)
theorem clr_bits {n m k : Nat} : clr n k = clr m k ↔ ∀ i, k ≤ i → n.testBit i = m.testBit i := clr_eq.trans div_bits
theorem Ad.num_lt {a : Ad} (h : a.ok) : a.num < 2 ^ 128 := by
 obtain ⟨h1, h2⟩ := h
 unfold Ad.num
 omega
theorem Ad.num_wd {a : Ad} (h : a.ok) (hr : a.right) : a.num < 2 ^ a.wd := by
 unfold Ad.wd
 split
 ·exact Ad.num_lt h
 ·rcases hr with h' | ⟨h1, h2⟩
  ·contradiction
  ·unfold Ad.num
   omega
theorem Ad.fst_ok {a : Ad} (h : a.ok) (n : Nat) : (a.fst n).ok := ⟨Nat.lt_of_le_of_lt (clr_le _ _) h.1, Nat.lt_of_le_of_lt (clr_le _ _) h.2⟩
theorem wd_v6 {a b : Ad} (h : a.v6 = b.v6) : a.wd = b.wd := by unfold Ad.wd; rw [h]
theorem Ad.fst_v6 (a : Ad) (n : Nat) : (a.fst n).v6 = a.v6 := by simp only [Ad.fst]
theorem clr_word (W h l r : Nat) (hl : l < 2 ^ W) : clr h (r - W) * 2 ^ W + clr l r = clr (h * 2 ^ W + l) r := by
 by_cases hr : W ≤ r
 ·obtain ⟨k, rfl⟩ : ∃ k, r = k + W := ⟨r - W, by omega⟩
  rw [Nat.add_sub_cancel]
  have h0 : clr l (k + W) = 0 := clr_big (Nat.lt_of_lt_of_le hl (Nat.pow_le_pow_right (by decide) (by omega)))
  rw [h0, Nat.add_zero]
  unfold clr
  rw [Nat.pow_add, Nat.mul_comm (2 ^ k) (2 ^ W), ← Nat.div_div_eq_div_mul, Nat.add_comm (h * 2 ^ W), Nat.add_mul_div_right _ _ (Nat.two_pow_pos W), Nat.div_eq_of_lt hl, Nat.zero_add]
  rw [Nat.mul_assoc, Nat.mul_comm (2 ^ k) (2 ^ W)]
 ·rw [show r - W = 0 by omega, clr_zero]
  unfold clr
  obtain ⟨d, rfl⟩ : ∃ d, W = d + r := ⟨W - r, by omega⟩
  rw [Nat.pow_add, ← Nat.mul_assoc, Nat.add_comm (h * 2 ^ d * 2 ^ r) l, Nat.add_mul_div_right _ _ (Nat.two_pow_pos r), Nat.add_mul]
  exact Nat.add_comm _ _
theorem Ad.fst_num {a : Ad} (h : a.ok) (n : Nat) : (a.fst n).num = clr a.num (a.wd - n) := clr_word 64 a.hi a.lo (a.wd - n) h.2
theorem Ad.ext_num {a b : Ad} (ha : a.ok) (hb : b.ok) (hv : a.v6 = b.v6) (h : a.num = b.num) : a = b := by
 obtain ⟨v, x, y⟩ := a
 obtain ⟨v', x', y'⟩ := b
 obtain ⟨h1, h2⟩ := ha
 obtain ⟨h3, h4⟩ := hb
 simp only [Ad.num] at *
 subst hv
 obtain rfl : x = x' := by omega
 obtain rfl : y = y' := by omega
 rfl
def okP (a : Ad) (n : Nat) : Prop := a.right ∧ n ≤ a.wd ∧ a.fst n = a
instance (a : Ad) (n : Nat) : Decidable (okP a n) := inferInstanceAs (Decidable (_ ∧ _))
def holds (p : Ad) (n : Nat) (a : Ad) : Prop := okP p n ∧ a.right ∧ p.v6 = a.v6 ∧ a.fst n = p
instance (p : Ad) (n : Nat) (a : Ad) : Decidable (holds p n a) := inferInstanceAs (Decidable (_ ∧ _))
theorem fst_bits {a b : Ad} (ha : a.ok) (hb : b.ok) (hra : a.right) (hrb : b.right) (hv : a.v6 = b.v6) {n : Nat} (hn : n ≤ a.wd) : a.fst n = b.fst n ↔ ∀ k, k < n → a.bt k = b.bt k := by
 have hw := wd_v6 hv
 have h1 : a.fst n = b.fst n ↔ clr a.num (a.wd - n) = clr b.num (a.wd - n) := by
  constructor
  ·intro h
   rw [← Ad.fst_num ha, h, Ad.fst_num hb, hw]
  ·intro h
   refine Ad.ext_num (Ad.fst_ok ha n) (Ad.fst_ok hb n) hv ?_
   rw [Ad.fst_num ha, Ad.fst_num hb, ← hw, h]
 rw [h1, clr_bits]
 constructor
 ·intro h k hk
  unfold Ad.bt
  rw [← hw]
  exact h _ (by omega)
 ·intro h i hi
  by_cases hlt : i < a.wd
  ·have := h (a.wd - 1 - i) (by omega)
   unfold Ad.bt at this
   rw [← hw, show a.wd - 1 - (a.wd - 1 - i) = i by omega] at this
   exact this
  ·have e1 := Nat.testBit_lt_two_pow (Nat.lt_of_lt_of_le (Ad.num_wd ha hra) (Nat.pow_le_pow_right (by decide) (show a.wd ≤ i by omega)))
   have e2 := Nat.testBit_lt_two_pow (Nat.lt_of_lt_of_le (Ad.num_wd hb hrb) (Nat.pow_le_pow_right (by decide) (show b.wd ≤ i by omega)))
   rw [e1, e2]
theorem fst_self {a : Ad} (ha : a.ok) (hr : a.right) {n : Nat} (hn : n ≤ a.wd) : a.fst n = a ↔ ∀ k, n ≤ k → k < a.wd → a.bt k = false := by
 have h1 : a.fst n = a ↔ clr a.num (a.wd - n) = a.num := by
  constructor
  ·intro h
   rw [← Ad.fst_num ha, h]
  ·intro h
   exact Ad.ext_num (Ad.fst_ok ha n) ha rfl (by rw [Ad.fst_num ha, h])
 rw [h1]
 constructor
 ·intro h k hk hlt
  unfold Ad.bt
  rw [← h]
  unfold clr
  rw [Nat.testBit_mul_two_pow]
  simp only [Bool.and_eq_false_imp, decide_eq_true_eq]
  intro h'
  omega
 ·intro h
  apply Nat.eq_of_testBit_eq
  intro i
  unfold clr
  rw [Nat.testBit_mul_two_pow, Nat.testBit_div_two_pow]
  by_cases hi : a.wd - n ≤ i
  ·rw [show i - (a.wd - n) + (a.wd - n) = i by omega]
   simp [hi]
  ·have := h (a.wd - 1 - i) (by omega) (by omega)
   unfold Ad.bt at this
   rw [show a.wd - 1 - (a.wd - 1 - i) = i by omega] at this
   simp [hi, this]
def pth (a : Ad) (n : Nat) : List Bool := (List.range n).map a.bt
theorem pth_len (a : Ad) (n : Nat) : (pth a n).length = n := by simp [pth]
theorem pth_succ (a : Ad) (n : Nat) : pth a (n + 1) = pth a n ++ [a.bt n] := by simp [pth, List.range_succ]
theorem pth_eq {a b : Ad} {n : Nat} : pth a n = pth b n ↔ ∀ k, k < n → a.bt k = b.bt k := by
 unfold pth
 rw [List.map_inj_left]
 simp
theorem pth_inj {a b : Ad} {n m : Nat} (ha : a.ok) (hb : b.ok) (h1 : okP a n) (h2 : okP b m) (hv : a.v6 = b.v6) (h : pth a n = pth b m) : a = b ∧ n = m := by
 obtain rfl : n = m := by have := congrArg List.length h; rwa [pth_len, pth_len] at this
 refine ⟨?_, rfl⟩
 rw [← h1.2.2, ← h2.2.2]
 exact (fst_bits ha hb h1.1 h2.1 hv h1.2.1).2 (pth_eq.1 h)
end Go.Proofs.YtdlcldjlfhmlgaaGreatDoor.A
/- Layer 13: rules, and what they tell of an address: facts alone. -/
namespace Go.Proofs.YtdlcldjlfhmlgaaGreatDoor.A
structure Rl where
 p : Ad
 n : Int
 act : Int
deriving DecidableEq
def Rl.ok (r : Rl) : Prop := r.p.ok ∧ (-9223372036854775808 ≤ r.n ∧ r.n ≤ 9223372036854775807) ∧ (-9223372036854775808 ≤ r.act ∧ r.act ≤ 9223372036854775807)
def Rl.good (r : Rl) : Prop := (0 ≤ r.n ∧ okP r.p r.n.toNat) ∧ (r.act = 1 ∨ r.act = 2 ∨ r.act = 3)
instance (r : Rl) : Decidable r.good := inferInstanceAs (Decidable (_ ∧ _))
def Rl.holds (r : Rl) (a : Ad) : Prop := 0 ≤ r.n ∧ Go.Proofs.YtdlcldjlfhmlgaaGreatDoor.A.holds r.p r.n.toNat a
instance (r : Rl) (a : Ad) : Decidable (r.holds a) := inferInstanceAs (Decidable (_ ∧ _))
def Rl.apart (a b : Rl) : Prop := ¬ (a.p = b.p ∧ a.n = b.n)
instance (a b : Rl) : Decidable (a.apart b) := inferInstanceAs (Decidable (¬ _))
def OkRs (rs : List Rl) : Prop := (∀ r ∈ rs, r.good) ∧ rs.Pairwise Rl.apart
theorem OkRs.nil : OkRs [] := ⟨by simp, by simp⟩
theorem okRs_snoc {rs : List Rl} {r : Rl} : OkRs (rs ++ [r]) ↔ OkRs rs ∧ r.good ∧ ∀ x ∈ rs, x.apart r := by
 unfold OkRs
 rw [List.pairwise_append]
 simp only [List.mem_append, List.mem_singleton, List.pairwise_singleton]
 constructor
 ·rintro ⟨h1, h2, _, h3⟩
  exact ⟨⟨fun x hx => h1 x (.inl hx), h2⟩, h1 r (.inr rfl), fun x hx => h3 x hx r rfl⟩
 ·rintro ⟨⟨h1, h2⟩, h3, h4⟩
  exact ⟨fun x hx => hx.elim (h1 x) (fun e => e ▸ h3), h2, trivial, fun x hx y hy => hy ▸ h4 x hx⟩
theorem OkRs.sub {rs rs' : List Rl} (h : OkRs (rs ++ rs')) : OkRs rs := ⟨fun r hr => h.1 r (by simp [hr]), (List.pairwise_append.1 h.2).1⟩
def Rl.at (r : Rl) (v : Bool) (q : List Bool) : Prop := r.p.v6 = v ∧ pth r.p r.n.toNat = q
instance (r : Rl) (v : Bool) (q : List Bool) : Decidable (r.at v q) := inferInstanceAs (Decidable (_ ∧ _))
def look : List Rl → Bool → List Bool → Int
 | [], _, _ => 0
 | r :: rs, v, q => if r.at v q then r.act else look rs v q
theorem look_snoc (rs : List Rl) (r : Rl) (v : Bool) (q : List Bool) (h : ∀ x ∈ rs, ¬ (x.at v q)) : look (rs ++ [r]) v q = if r.at v q then r.act else 0 := by
 induction rs with
 | nil => rfl
 | cons x rs ih =>
  rw [List.cons_append, look, if_neg (h x (by simp)), ih (fun y hy => h y (by simp [hy]))]
theorem look_other (rs : List Rl) (r : Rl) (v : Bool) (q : List Bool) (h : ¬ r.at v q) : look (rs ++ [r]) v q = look rs v q := by
 induction rs with
 | nil => simp [look, h]
 | cons x rs ih => rw [List.cons_append, look, look, ih]
theorem look_mem {rs : List Rl} {v : Bool} {q : List Bool} (h : look rs v q ≠ 0) : ∃ r ∈ rs, r.at v q ∧ look rs v q = r.act := by
 induction rs with
 | nil => exact absurd rfl h
 | cons r rs ih =>
  by_cases hr : r.at v q
  ·exact ⟨r, by simp, hr, by rw [look, if_pos hr]⟩
  ·rw [look, if_neg hr] at h
   obtain ⟨x, hx, h1, h2⟩ := ih h
   exact ⟨x, by simp [hx], h1, by rw [look, if_neg hr, h2]⟩
theorem look_none {rs : List Rl} {v : Bool} {q : List Bool} (hg : ∀ r ∈ rs, r.good) (h : look rs v q = 0) : ∀ r ∈ rs, ¬ r.at v q := by
 induction rs with
 | nil => simp
 | cons r rs ih =>
  by_cases hr : r.at v q
  ·rw [look, if_pos hr] at h
   have := (hg r (by simp)).2
   omega
  ·rw [look, if_neg hr] at h
   intro x hx
   rcases List.mem_cons.1 hx with rfl | hx
   ·exact hr
   ·exact ih (fun y hy => hg y (by simp [hy])) h x hx
theorem at_apart {a b : Rl} {v : Bool} {q : List Bool} (ha : a.ok) (hb : b.ok) (hga : a.good) (hgb : b.good) (h1 : a.at v q) (h2 : b.at v q) : ¬ a.apart b := by
 obtain ⟨h3, h4⟩ := pth_inj ha.1 hb.1 hga.1.2 hgb.1.2 (h1.1.trans h2.1.symm) (h1.2.trans h2.2.symm)
 have h5 := hga.1.1
 have h6 := hgb.1.1
 exact fun h => h ⟨h3, by omega⟩
theorem look_add {rs : List Rl} {r : Rl} (h : OkRs (rs ++ [r])) (ho : ∀ x ∈ rs ++ [r], x.ok) : (∀ v q, look (rs ++ [r]) v q = if r.at v q then r.act else look rs v q) ∧ look rs r.p.v6 (pth r.p r.n.toNat) = 0 := by
 have hs := okRs_snoc.1 h
 have hno : ∀ v q, r.at v q → ∀ x ∈ rs, ¬ x.at v q := fun v q hr x hx hxa => at_apart (ho x (by simp [hx])) (ho r (by simp)) (hs.1.1 x hx) hs.2.1 hxa hr (hs.2.2 x hx)
 have hzero : ∀ v q, r.at v q → look rs v q = 0 := fun v q hr => by
  by_cases hz : look rs v q = 0
  ·exact hz
  ·obtain ⟨x, hx, hxa, _⟩ := look_mem hz
   exact absurd hxa (hno v q hr x hx)
 refine ⟨fun v q => ?_, hzero _ _ ⟨rfl, rfl⟩⟩
 by_cases hr : r.at v q
 ·rw [look_snoc _ _ _ _ (hno v q hr)]
  simp [hr]
 ·rw [look_other _ _ _ _ hr, if_neg hr]
theorem not_add {rs : List Rl} {r : Rl} (h : OkRs rs) (hr : r.good) (ho : ∀ x ∈ rs ++ [r], x.ok) : OkRs (rs ++ [r]) ↔ look rs r.p.v6 (pth r.p r.n.toNat) = 0 := by
 constructor
 ·intro h'
  exact (look_add h' ho).2
 ·intro h'
  refine okRs_snoc.2 ⟨h, hr, fun x hx => ?_⟩
  have hn := look_none h.1 h' x hx
  rintro ⟨h1, h2⟩
  exact hn ⟨by rw [h1], by rw [h1, h2]⟩
end Go.Proofs.YtdlcldjlfhmlgaaGreatDoor.A
/- Layer 13: addresses as texts: facts alone. -/
namespace Go.Proofs.YtdlcldjlfhmlgaaGreatDoor.A
def pcs (a : Ad) (at' many : Nat) : Nat := if 64 ≤ a.wd - at' - many then a.hi / 2 ^ (a.wd - at' - many - 64) % 2 ^ many else a.lo / 2 ^ (a.wd - at' - many) % 2 ^ many
end Go.Proofs.YtdlcldjlfhmlgaaGreatDoor.A
