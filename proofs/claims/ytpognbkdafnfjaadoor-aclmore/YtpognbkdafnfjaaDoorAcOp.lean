/- Layer 13: addresses, prefixes, rules as they come in. -/
import Derived.Lib.SmallJoins
import Derived.Deep.SlicePairs
import Derived.Test.YtpognbkdafnfjaaDoorAcLaid
import Derived.Test.YtpognbkdafnfjaaDoorAcEx
namespace Go.Proofs.YtpognbkdafnfjaaDoor
set_option linter.unusedVariables false
set_option linter.unusedSimpArgs false
open Go.RowKit

section
variable {H : Type} {enc : TypeId × Value → H} {W : World} {base : Nat} {spare : Nat → Bool} {held : Bool}
theorem c_ad : Tryd.prog.cellsOf 32 = 3 := by kernel_rfl
theorem c_pf : Tryd.prog.cellsOf 34 = 4 := by kernel_rfl
theorem c_rl : Tryd.prog.cellsOf 36 = 5 := by kernel_rfl
theorem nat_of_u64 {z : Int} (h : (Lit.int .u64 z).wf = true) : ∃ n : Nat, z = n ∧ n < 2 ^ 64 := by
  simp only [Lit.wf, Bool.and_eq_true, decide_eq_true_eq] at h
  have e1 : IntKind.u64.min = 0 := by decide
  have e2 : IntKind.u64.max = 18446744073709551615 := by decide
  rw [e1, e2] at h
  exact ⟨z.toNat, by omega, by omega⟩
set_option maxRecDepth 100000 in
theorem trod_ad {fuel : Nat} {cs : List Value} {x : DataW H × List MemPlace} (h : DataW.trod enc Tryd.prog W base spare held fuel 32 cs = some x) : ∃ a : Ad, a.ok ∧ cs = [.bool a.v6, .int .u64 (a.hi : Int), .int .u64 (a.lo : Int)] := by
  obtain ⟨y0, y1, y2, k, _, hlc, t0, t1, t2⟩ := Go.Deep.trod_struct3 Tryd.underlying32 h
  rw [c_ad] at hlc
  match cs, hlc with
  | [v0, v1, v2], _ =>
    have t0' : DataW.trod enc Tryd.prog W base spare held k 4 [v0] = some y0 := t0
    have t1' : DataW.trod enc Tryd.prog W base spare held k 30 [v1] = some y1 := t1
    have t2' : DataW.trod enc Tryd.prog W base spare held k 30 [v2] = some y2 := t2
    obtain ⟨b, q0, _⟩ := DataW.trod_bool (t := 4) Tryd.underlying4 t0'
    obtain ⟨s1, q1, _, w1⟩ := DataW.trod_int (t := 30) (k := .u64) Tryd.underlying30 t1'
    obtain ⟨s2, q2, _, w2⟩ := DataW.trod_int (t := 30) (k := .u64) Tryd.underlying30 t2'
    obtain ⟨n1, rfl, l1⟩ := nat_of_u64 w1
    obtain ⟨n2, rfl, l2⟩ := nat_of_u64 w2
    simp at q0 q1 q2
    exact ⟨⟨b, n1, n2⟩, ⟨l1, l2⟩, by rw [q0, q1, q2]⟩
set_option maxRecDepth 100000 in
theorem trod_pf {fuel : Nat} {cs : List Value} {x : DataW H × List MemPlace} (h : DataW.trod enc Tryd.prog W base spare held fuel 34 cs = some x) : ∃ (a : Ad) (n : Int), a.ok ∧ (-9223372036854775808 ≤ n ∧ n ≤ 9223372036854775807) ∧ cs = [.bool a.v6, .int .u64 (a.hi : Int), .int .u64 (a.lo : Int), .int .i64 n] := by
  obtain ⟨y0, y1, k, _, hlc, t0, t1⟩ := Go.ChangeShapes.trod_struct2 Tryd.underlying34 h
  rw [c_pf] at hlc
  match cs, hlc with
  | [v0, v1, v2, v3], _ =>
    have t0' : DataW.trod enc Tryd.prog W base spare held k 32 [v0, v1, v2] = some y0 := t0
    have t1' : DataW.trod enc Tryd.prog W base spare held k 3 [v3] = some y1 := t1
    obtain ⟨a, ha, q0⟩ := trod_ad t0'
    obtain ⟨s1, q1, _, w1⟩ := DataW.trod_int (t := 3) (k := .i64) Tryd.underlying3 t1'
    simp at q0 q1
    exact ⟨a, s1, ha, Go.bounds_i64 w1, by rw [q0.1, q0.2.1, q0.2.2, q1]⟩
set_option maxRecDepth 100000 in
theorem trod_rl {fuel : Nat} {cs : List Value} {x : DataW H × List MemPlace} (h : DataW.trod enc Tryd.prog W base spare held fuel 36 cs = some x) : ∃ r : Rl, r.ok ∧ cs = rlC r := by
  obtain ⟨y0, y1, k, _, hlc, t0, t1⟩ := Go.ChangeShapes.trod_struct2 Tryd.underlying36 h
  rw [c_rl] at hlc
  match cs, hlc with
  | [v0, v1, v2, v3, v4], _ =>
    have t0' : DataW.trod enc Tryd.prog W base spare held k 34 [v0, v1, v2, v3] = some y0 := t0
    have t1' : DataW.trod enc Tryd.prog W base spare held k 3 [v4] = some y1 := t1
    obtain ⟨a, n, ha, hn, q0⟩ := trod_pf t0'
    obtain ⟨s1, q1, _, w1⟩ := DataW.trod_int (t := 3) (k := .i64) Tryd.underlying3 t1'
    simp at q0 q1
    exact ⟨⟨a, n, s1⟩, ⟨ha, hn, Go.bounds_i64 w1⟩, by rw [q0.1, q0.2.1, q0.2.2.1, q0.2.2.2, q1]; rfl⟩
open Go.ChangeShapes Go.WideShapes
set_option maxRecDepth 100000 in
theorem open_ad {r : Reach} {b0 : Nat} {v : Value} {d : DataW H} {p : List MemPlace} (hv : Value.okWide Tryd.prog W r b0 32 v) (h : DataW.Trod enc Tryd.prog W base spare held 32 v d p) : ∃ (u : Bool) (x y : Nat), v = adV u x y ∧ x < 2 ^ 64 ∧ y < 2 ^ 64 := by
  obtain ⟨cs, rfl, hsz⟩ := okWide_struct Tryd.underlying32 hv
  obtain ⟨fuel, hf⟩ := h
  obtain ⟨a, ha, q⟩ := trod_ad hf
  refine ⟨a.v6, a.hi, a.lo, ?_, ha.1, ha.2⟩
  obtain ⟨l⟩ := cs
  simp [Value.cells] at q
  rw [q]
set_option maxRecDepth 100000 in
theorem open_pf {r : Reach} {b0 : Nat} {v : Value} {d : DataW H} {p : List MemPlace} (hv : Value.okWide Tryd.prog W r b0 34 v) (h : DataW.Trod enc Tryd.prog W base spare held 34 v d p) : ∃ (u : Bool) (x y : Nat) (n : Int), v = pfV u x y n ∧ x < 2 ^ 64 ∧ y < 2 ^ 64 ∧ (-9223372036854775808 ≤ n ∧ n ≤ 9223372036854775807) := by
  obtain ⟨cs, rfl, hsz⟩ := okWide_struct Tryd.underlying34 hv
  obtain ⟨fuel, hf⟩ := h
  obtain ⟨a, n, ha, hn, q⟩ := trod_pf hf
  refine ⟨a.v6, a.hi, a.lo, n, ?_, ha.1, ha.2, hn⟩
  obtain ⟨l⟩ := cs
  simp [Value.cells] at q
  rw [q]
set_option maxRecDepth 100000 in
theorem open_rl {r : Reach} {b0 : Nat} {v : Value} {d : DataW H} {p : List MemPlace} (hv : Value.okWide Tryd.prog W r b0 36 v) (h : DataW.Trod enc Tryd.prog W base spare held 36 v d p) : ∃ z : Rl, v = rlV z.p.v6 z.p.hi z.p.lo z.n z.act ∧ z.ok := by
  obtain ⟨cs, rfl, hsz⟩ := okWide_struct Tryd.underlying36 hv
  obtain ⟨fuel, hf⟩ := h
  obtain ⟨z, hz, q⟩ := trod_rl hf
  refine ⟨z, ?_, hz⟩
  obtain ⟨l⟩ := cs
  simp [Value.cells] at q
  rw [q]
  rfl
end
theorem list_of {α : Type} {R : Nat → α → Prop} : ∀ k : Nat, (∀ i, i < k → ∃ x, R i x) → ∃ l : List α, l.length = k ∧ ∀ j (h : j < l.length), R j l[j]
  | 0, _ => ⟨[], rfl, fun j h => by simp at h⟩
  | k + 1, h => by
    obtain ⟨l, hl, hr⟩ := list_of k fun i hi => h i (by omega)
    obtain ⟨x, hx⟩ := h k (by omega)
    refine ⟨l ++ [x], by simp [hl], fun j hj => ?_⟩
    rw [List.getElem_append]
    split
    · exact hr j (by assumption)
    · simp at hj
      obtain rfl : j = k := by omega
      simpa [hl] using hx
theorem add_off (b o j : Nat) : (⟨b, o, none⟩ : Addr).add j = ⟨b, o + j, none⟩ := by
  cases j with
  | zero => rfl
  | succ k => simp [Addr.add]
theorem bytes_rl : Tryd.prog.bytesOf 36 = 40 := by kernel_rfl
theorem bytes_ad : Tryd.prog.bytesOf 32 = 24 := by kernel_rfl
/-- addresses in a slice. -/
def AdsAt (w : World) (q : Option Addr) (l : List Ad) : Prop := ∀ j (hj : j < l.length), ∃ g off, q = some ⟨g, off, none⟩ ∧ g < w.heap.size ∧ w.cell? ⟨g, off + j * 3, none⟩ = some (.bool l[j].v6) ∧ w.cell? ⟨g, off + j * 3 + 1, none⟩ = some (.int .u64 (l[j].hi : Int)) ∧ w.cell? ⟨g, off + j * 3 + 2, none⟩ = some (.int .u64 (l[j].lo : Int))
theorem AdsAt.blk {w w' : World} {q : Option Addr} {l : List Ad} (h : AdsAt w q l) (hb : Below w.heap.size w w') : AdsAt w' q l := fun j hj => by
  obtain ⟨g, off, e, hg, c0, c1, c2⟩ := h j hj
  exact ⟨g, off, e, Nat.lt_of_lt_of_le hg hb.size, (hb.cell (p := ⟨g, _, none⟩) hg).trans c0, (hb.cell (p := ⟨g, _, none⟩) hg).trans c1, (hb.cell (p := ⟨g, _, none⟩) hg).trans c2⟩
open Go.ChangeShapes Go.WideShapes in
set_option maxRecDepth 100000 in
theorem open_rls {H : Type} {enc : TypeId × Value → H} {W : World} {a0 : Option Addr} {len cap fuel : Nat} {x : DataW H × List MemPlace}
    (hf : DataW.trod enc Tryd.prog W 0 (fun _ => true) true fuel 22 [.slice a0 len cap] = some x) :
    ∃ rs : List Rl, rs.length = len ∧ RlsAt W a0 rs ∧ (∀ r ∈ rs, r.ok) ∧ (len ≤ cap ∧ cap ≤ maxLen ∧ (a0 = none → cap = 0)) ∧ (len = 0 ∨ ∃ elems spare, x.1 = .slice elems spare ∧ elems.length = len) := by
  rcases Go.Deep.open_slice Tryd.underlying22 hf with ⟨hcs, hx⟩ | ⟨a, len', cap', m, n, D, Pl, hcs, _, hl, hm, hmm, hx, hall⟩
  · simp at hcs
    obtain ⟨rfl, rfl, rfl⟩ := hcs
    exact ⟨[], rfl, fun j hj => by simp at hj, by simp, ⟨by omega, by unfold maxLen; omega, fun _ => rfl⟩, .inl rfl⟩
  · simp at hcs
    obtain ⟨rfl, rfl, rfl⟩ := hcs
    simp only [if_true] at hmm
    subst hmm
    rw [c_rl] at hall
    obtain ⟨b, off, spot⟩ := a
    have key : ∀ i, i < len → ∃ r : Rl, (spot = none ∧ b < W.heap.size ∧ ∀ k, k < 5 → W.cell? ⟨b, off + i * 5 + k, none⟩ = (rlC r)[k]?) ∧ r.ok := fun i hi => by
      obtain ⟨cs', h1, h2⟩ := hall i (by omega)
      obtain ⟨_, hlen, hcell⟩ := World.cells?_some h1
      obtain ⟨r, hr, rfl⟩ := trod_rl h2
      have hspot : spot = none := by
        obtain ⟨cs0, h10, _⟩ := hall 0 (by omega)
        obtain ⟨_, hl0, hc0⟩ := World.cells?_some h10
        have h00 := hc0 0 (by omega)
        rw [List.getElem?_eq_getElem (by omega)] at h00
        simpa [Addr.add] using World.cell?_spot h00
      subst hspot
      have hk : ∀ k, k < 5 → W.cell? ⟨b, off + i * 5 + k, none⟩ = (rlC r)[k]? := fun k hk => by
        have := hcell k hk
        rw [Go.Deep.add_add, add_off, ← Nat.add_assoc] at this
        exact this
      exact ⟨r, ⟨rfl, cellB ((hk 0 (by omega)).trans (show (rlC r)[0]? = some _ from rfl)), hk⟩, hr⟩
    obtain ⟨ls, hlen, hr⟩ := list_of len key
    refine ⟨ls, hlen, fun j hj => ?_, fun d hd => ?_, ⟨hl, hm, fun h => by cases h⟩, .inr ⟨_, _, by rw [hx], by simp⟩⟩
    · obtain ⟨⟨hs, hb, hk⟩, _⟩ := hr j hj
      subst hs
      exact ⟨b, off, rfl, hb, hk 0 (by omega), hk 1 (by omega), hk 2 (by omega), hk 3 (by omega), hk 4 (by omega)⟩
    · obtain ⟨j, hj, rfl⟩ := List.getElem_of_mem hd
      exact (hr j hj).2
open Go.ChangeShapes Go.WideShapes in
set_option maxRecDepth 100000 in
theorem open_ads {H : Type} {enc : TypeId × Value → H} {W : World} {a0 : Option Addr} {len cap fuel : Nat} {x : DataW H × List MemPlace}
    (hf : DataW.trod enc Tryd.prog W 0 (fun _ => true) true fuel 23 [.slice a0 len cap] = some x) :
    ∃ rs : List Ad, rs.length = len ∧ AdsAt W a0 rs ∧ (∀ r ∈ rs, r.ok) ∧ (len ≤ cap ∧ cap ≤ maxLen ∧ (a0 = none → cap = 0)) ∧ (len = 0 ∨ ∃ elems spare, x.1 = .slice elems spare ∧ elems.length = len) := by
  rcases Go.Deep.open_slice Tryd.underlying23 hf with ⟨hcs, hx⟩ | ⟨a, len', cap', m, n, D, Pl, hcs, _, hl, hm, hmm, hx, hall⟩
  · simp at hcs
    obtain ⟨rfl, rfl, rfl⟩ := hcs
    exact ⟨[], rfl, fun j hj => by simp at hj, by simp, ⟨by omega, by unfold maxLen; omega, fun _ => rfl⟩, .inl rfl⟩
  · simp at hcs
    obtain ⟨rfl, rfl, rfl⟩ := hcs
    simp only [if_true] at hmm
    subst hmm
    rw [c_ad] at hall
    obtain ⟨b, off, spot⟩ := a
    have key : ∀ i, i < len → ∃ r : Ad, (spot = none ∧ b < W.heap.size ∧ ∀ k, k < 3 → W.cell? ⟨b, off + i * 3 + k, none⟩ = [Value.bool r.v6, .int .u64 (r.hi : Int), .int .u64 (r.lo : Int)][k]?) ∧ r.ok := fun i hi => by
      obtain ⟨cs', h1, h2⟩ := hall i (by omega)
      obtain ⟨_, hlen, hcell⟩ := World.cells?_some h1
      obtain ⟨r, hr, rfl⟩ := trod_ad h2
      have hspot : spot = none := by
        obtain ⟨cs0, h10, _⟩ := hall 0 (by omega)
        obtain ⟨_, hl0, hc0⟩ := World.cells?_some h10
        have h00 := hc0 0 (by omega)
        rw [List.getElem?_eq_getElem (by omega)] at h00
        simpa [Addr.add] using World.cell?_spot h00
      subst hspot
      have hk : ∀ k, k < 3 → W.cell? ⟨b, off + i * 3 + k, none⟩ = [Value.bool r.v6, .int .u64 (r.hi : Int), .int .u64 (r.lo : Int)][k]? := fun k hk => by
        have := hcell k hk
        rw [Go.Deep.add_add, add_off, ← Nat.add_assoc] at this
        exact this
      exact ⟨r, ⟨rfl, cellB ((hk 0 (by omega)).trans (show [Value.bool r.v6, .int .u64 (r.hi : Int), .int .u64 (r.lo : Int)][0]? = some _ from rfl)), hk⟩, hr⟩
    obtain ⟨ls, hlen, hr⟩ := list_of len key
    refine ⟨ls, hlen, fun j hj => ?_, fun d hd => ?_, ⟨hl, hm, fun h => by cases h⟩, .inr ⟨_, _, by rw [hx], by simp⟩⟩
    · obtain ⟨⟨hs, hb, hk⟩, _⟩ := hr j hj
      subst hs
      exact ⟨b, off, rfl, hb, hk 0 (by omega), hk 1 (by omega), hk 2 (by omega)⟩
    · obtain ⟨j, hj, rfl⟩ := List.getElem_of_mem hd
      exact (hr j hj).2
theorem laidOut : laidOutB Tryd.prog = true := by kernel_rfl
end Go.Proofs.YtpognbkdafnfjaaDoor
