/- Texts of this proof, joined: ZMem, ZOnes, ZChain, ZApp. -/
import Derived.Test.YtnchoogjjnjikaaGreatDoorJ18
import Derived.WalkKit
import Derived.ProofKit
import Derived.OpenShut
import Derived.Deep.SlicePairs
import Derived.Laws.AppendOwnNone
/- Names and types in memory. -/
namespace Go.Proofs.YtnchoogjjnjikaaGreatDoor
set_option linter.unusedVariables false
set_option linter.unusedSimpArgs false
open Go.RowKit
attribute [local go_sem ↓] storeAt_lk loadAt_lk
theorem rowz_at {W : World} {n₀ : Nat} {e : TypeId} {v : Value} {n : Nat} {xs : List Value} (h : W.ownsRow n₀ e 1 v n xs) (h0 : 0 < n) : ∃ g cap, v = .slice (some ⟨g, 0, none⟩) n cap ∧ n₀ ≤ g ∧ g < W.heap.size ∧ n ≤ cap ∧ cap ≤ maxLen ∧ ∀ j u, xs[j]? = some u → W.cell? ⟨g, j, none⟩ = some u := by
  rcases h.2 with ⟨_, h1⟩ | ⟨g, cap, cur, hv, hb, hg, hn, hc, _, ht⟩
  · omega
  · refine ⟨g, cap, hv, hb, box_lt hg, hn, hc, fun j u hu => ?_⟩
    have := Lib.cells_of_row (w := W) hg n j u (by rw [Nat.mul_one] at ht; rw [ht]; exact hu)
    rw [add_at] at this
    simpa using this
def NmsAt (W : World) (v : Value) (ns : List N3) : Prop := ∃ g cap, v = .slice (some ⟨g, 0, none⟩) ns.length cap ∧ g < W.heap.size ∧ ns.length ≤ cap ∧ cap ≤ maxLen ∧ ∀ j (h : j < ns.length), W.cell? ⟨g, j, none⟩ = some (.string (nm ns[j]))
theorem NmsAt.blk {W W' : World} {v : Value} {ns : List N3} (h : NmsAt W v ns) (hb : Below W.heap.size W W') : NmsAt W' v ns := by
  obtain ⟨g, cap, hv, hg, h1, h2, hc⟩ := h
  exact ⟨g, cap, hv, Nat.lt_of_lt_of_le hg hb.size, h1, h2, fun j hj => (hb.cell (p := ⟨g, j, none⟩) hg).trans (hc j hj)⟩
def nmsV (ns : List N3) : List Value := ns.map fun n => .string (nm n)
theorem nms_of_row {W : World} {n₀ : Nat} {e : TypeId} {v : Value} {ns : List N3} (h0 : 0 < ns.length) (h : W.ownsRow n₀ e 1 v ns.length (nmsV ns)) : NmsAt W v ns := by
  obtain ⟨g, cap, hv, hb, hg, hn, hc, hx⟩ := rowz_at h h0
  exact ⟨g, cap, hv, hg, hn, hc, fun j hj => hx j _ (by simp [nmsV, hj])⟩
def TysAt (W : World) (v : Value) (ts : List (List Int)) : Prop := ∃ g cap, v = .slice (some ⟨g, 0, none⟩) ts.length cap ∧ g < W.heap.size ∧ ts.length ≤ cap ∧ cap ≤ maxLen ∧ ∀ j (h : j < ts.length), ∃ c, W.cell? ⟨g, j, none⟩ = some c ∧ IntsAt W c ts[j]
theorem TysAt.blk {W W' : World} {v : Value} {ts : List (List Int)} (h : TysAt W v ts) (hb : Below W.heap.size W W') : TysAt W' v ts := by
  obtain ⟨g, cap, hv, hg, h1, h2, hc⟩ := h
  refine ⟨g, cap, hv, Nat.lt_of_lt_of_le hg hb.size, h1, h2, fun j hj => ?_⟩
  obtain ⟨c, h3, h4⟩ := hc j hj
  exact ⟨c, (hb.cell (p := ⟨g, j, none⟩) hg).trans h3, h4.below hb⟩
def TyVs (W : World) (cs : List Value) (ts : List (List Int)) : Prop := cs.length = ts.length ∧ ∀ j (h1 : j < cs.length) (h2 : j < ts.length), IntsAt W cs[j] ts[j]
theorem TyVs.blk {W W' : World} {cs : List Value} {ts : List (List Int)} (h : TyVs W cs ts) (hb : Below W.heap.size W W') : TyVs W' cs ts := ⟨h.1, fun j h1 h2 => (h.2 j h1 h2).below hb⟩
theorem TyVs.app {W : World} {cs ds : List Value} {ts us : List (List Int)} (h : TyVs W cs ts) (h' : TyVs W ds us) : TyVs W (cs ++ ds) (ts ++ us) := by
  refine ⟨by simp [h.1, h'.1], fun j h1 h2 => ?_⟩
  have e := h.1
  rw [List.getElem_append, List.getElem_append]
  split
  · rw [dif_pos (by omega)]; exact h.2 j _ _
  · rw [dif_neg (by omega)]
    have := h'.2 (j - cs.length) (by simp at h1; omega) (by simp at h2; omega)
    simpa [e] using this
theorem TysAt.vals {W : World} {v : Value} {ts : List (List Int)} (h : TysAt W v ts) : ∃ g cap cs, v = .slice (some ⟨g, 0, none⟩) ts.length cap ∧ g < W.heap.size ∧ TyVs W cs ts ∧ ts.length ≤ cap ∧ cap ≤ maxLen ∧ ∀ j u, cs[j]? = some u → W.cell? ⟨g, j, none⟩ = some u := by
  obtain ⟨g, cap, hv, hg, h1, h2, hc⟩ := h
  have key : ∀ k, k ≤ ts.length → ∃ cs : List Value, cs.length = k ∧ ∀ j (hj : j < cs.length) (hj' : j < ts.length), W.cell? ⟨g, j, none⟩ = some cs[j] ∧ IntsAt W cs[j] ts[j] := by
    intro k
    induction k with
    | zero => intro _; exact ⟨[], rfl, fun j hj => by simp at hj⟩
    | succ k ih =>
      intro hk
      obtain ⟨cs, hl, hcs⟩ := ih (by omega)
      obtain ⟨c, h3, h4⟩ := hc k (by omega)
      refine ⟨cs ++ [c], by simp [hl], fun j hj hj' => ?_⟩
      rw [List.getElem_append]
      split
      · exact hcs j (by assumption) hj'
      · simp at hj
        obtain rfl : j = k := by omega
        simp only [List.getElem_singleton]
        exact ⟨h3, h4⟩
  obtain ⟨cs, hl, hcs⟩ := key ts.length (Nat.le_refl _)
  refine ⟨g, cap, cs, hv, hg, ⟨hl, fun j a b => (hcs j a b).2⟩, h1, h2, fun j u hu => ?_⟩
  obtain ⟨hj, rfl⟩ := List.getElem?_eq_some_iff.1 hu
  exact (hcs j hj (by omega)).1
theorem tys_of_row {W : World} {n₀ : Nat} {e : TypeId} {v : Value} {cs : List Value} {ts : List (List Int)} (h0 : 0 < ts.length) (ht : TyVs W cs ts) (h : W.ownsRow n₀ e 1 v ts.length cs) : TysAt W v ts := by
  obtain ⟨g, cap, hv, hb, hg, hn, hc, hx⟩ := rowz_at h h0
  refine ⟨g, cap, hv, hg, hn, hc, fun j hj => ?_⟩
  have hj' : j < cs.length := by rw [ht.1]; exact hj
  exact ⟨cs[j], hx j _ (List.getElem?_eq_getElem hj'), ht.2 j hj' hj⟩
theorem TyVs.take {W : World} {cs : List Value} {ts : List (List Int)} (h : TyVs W cs ts) (m : Nat) : TyVs W (cs.take m) (ts.take m) := ⟨by simp [h.1], fun j h1 h2 => by
  rw [List.getElem_take, List.getElem_take]; exact h.2 j _ _⟩
theorem TyVs.drop {W : World} {cs : List Value} {ts : List (List Int)} (h : TyVs W cs ts) (m : Nat) : TyVs W (cs.drop m) (ts.drop m) := ⟨by simp [h.1], fun j h1 h2 => by
  rw [List.getElem_drop, List.getElem_drop]; exact h.2 _ _ _⟩
theorem TyVs.one {W : World} {c : Value} {t : List Int} (h : IntsAt W c t) : TyVs W [c] [t] := ⟨rfl, fun j h1 h2 => by
  obtain rfl : j = 0 := by simp at h1; omega
  exact h⟩
end Go.Proofs.YtnchoogjjnjikaaGreatDoor
/- []One as it comes in; the law's has. -/
namespace Go.Proofs.YtnchoogjjnjikaaGreatDoor
set_option linter.unusedVariables false
set_option linter.unusedSimpArgs false
open Go.RowKit
attribute [local go_sem ↓] storeAt_lk loadAt_lk
set_option maxRecDepth 100000 in
set_option maxHeartbeats 1000000 in
theorem lhas_in (W : World) (v : Value) (l : List Int) (k : Int) (hl : l.length ≤ 1000000) (h : IntsAt W v l) :
    Calls Tryz.prog 11 #[v, .int .i64 k] W fun e w' => e = .returned (.bool (hasB l k)) ∧ w' = W := by
  obtain ⟨q, c, rfl, hc⟩ := h
  have HC := Hid.mk hc
  clear hc
  obtain ⟨n, hn⟩ : ∃ n, l.length = n := ⟨_, rfl⟩
  have HN := Hid.mk hn
  rw [hn] at hl ⊢
  clear hn
  go_enter Tryz.func11, Tryz.ntmps11
  go_wp2_with fail
  go_loopw [5] (fun iv wr => ∃ i : Nat, i ≤ n ∧ iv = .int .i64 (i : Int) ∧ wr = W ∧ Hid (∀ j, j < i → l[j]? ≠ some k)) (fun iv _ => n - (intOf iv).toNat)
  case atStart => exact ⟨0, Nat.zero_le _, rfl, rfl, fun j hj => absurd hj (Nat.not_lt_zero _)⟩
  case round =>
    obtain ⟨i, hi, rfl, rfl, hno⟩ := hrel
    by_cases hlt : i < n
    · have hil : i < l.length := by rw [HN.out]; exact hlt
      obtain ⟨g, rfl, hg, hcell⟩ := HC.out i hil
      obtain ⟨x, hx⟩ : ∃ x, l[i] = x := ⟨_, rfl⟩
      rw [hx] at hcell
      have hx? : Hid (l[i]? = some x) := by rw [Hid, List.getElem?_eq_getElem hil, hx]
      have hi' : (i : Int) < (n : Int) := by omega
      clear hil hx
      by_cases hk : k = x
      · subst hk
        have HM : Hid (k ∈ l) := List.mem_of_getElem? hx?.out
        clear hno hx?
        go_wp2
        go_ret
        exact ⟨by rw [hasB, decide_eq_true HM.out]; rfl, rfl⟩
      · have e1 : (x == k) = false := by simpa using fun h => hk (Eq.symm h)
        have e3 : ¬ x = k := fun h => hk h.symm
        have HNo : Hid (∀ j, j < i + 1 → l[j]? ≠ some k) := fun j hj => by
          rcases Nat.lt_succ_iff_lt_or_eq.1 hj with h | h
          · exact hno j h
          · subst h
            rw [hx?.out]
            exact fun e => hk (Option.some.inj e).symm
        clear hno hx?
        go_wp2
        go_roundw
        case rel => exact ⟨i + 1, by omega, by go_num, by first | rfl | trivial, HNo⟩
        case measure => simp [intOf]; omega
    · obtain rfl : i = n := by omega
      have HM : Hid (¬ k ∈ l) := fun hm => by
        obtain ⟨j, hj⟩ := List.getElem?_of_mem hm
        have : j < l.length := (List.getElem?_eq_some_iff.1 hj).1
        exact hno j (by rw [HN.out] at this; exact this) hj
      clear hno
      go_wp2
      go_ret
      exact ⟨by rw [hasB, decide_eq_false HM.out]; rfl, rfl⟩
def GivenI (W : World) (a0 : Option Addr) (ls : List Int) : Prop := ∀ j (h : j < ls.length), ∃ b off, a0 = some ⟨b, off, none⟩ ∧ b < W.heap.size ∧ W.cell? ⟨b, off + j, none⟩ = some (.int .i64 ls[j])
theorem GivenI.below {w W : World} {a0 : Option Addr} {ls : List Int} (h : GivenI w a0 ls) (hB : Below w.heap.size w W) : GivenI W a0 ls := fun j hj => by
  obtain ⟨b, off, h1, h2, h3⟩ := h j hj
  exact ⟨b, off, h1, Nat.lt_of_lt_of_le h2 hB.size, (hB.cell (p := ⟨b, off + j, none⟩) h2).trans h3⟩
theorem add_off (b o j : Nat) : (⟨b, o, none⟩ : Addr).add j = ⟨b, o + j, none⟩ := by
  cases j with
  | zero => rfl
  | succ k => simp [Addr.add]
theorem add_on (b off j : Nat) : (⟨b, off, none⟩ : Addr).add j = ⟨b, off + j, none⟩ := add_off b off j
theorem lt_of_cell {w : World} {a : Addr} {v : Value} (h : w.cell? a = some v) : a.block < w.heap.size := cell_block h
theorem cells_int : Tryz.prog.cellsOf 3 = 1 := by kernel_rfl
open Go.ChangeShapes Go.WideShapes in
open Go.ChangeShapes Go.WideShapes in
theorem open_givenI {H : Type} {enc : TypeId × Value → H} {W : World} {a0 : Option Addr} {len cap fuel : Nat} {x : DataW H × List MemPlace}
    (hf : DataW.trod enc Tryz.prog W 0 (fun _ => true) true fuel 32 [.slice a0 len cap] = some x) :
    ∃ ls : List Int, ls.length = len ∧ GivenI W a0 ls ∧ (∀ z ∈ ls, -9223372036854775808 ≤ z ∧ z ≤ 9223372036854775807) ∧ (len ≤ cap ∧ cap ≤ maxLen ∧ (a0 = none → cap = 0)) := by
  rcases open_ints Tryz.underlying32 Tryz.underlying3 cells_int hf with ⟨hcs, hx⟩ | ⟨a, len', cap', zs, hcs, _, hl, hm, hz, hx, hcell, hsz⟩
  · simp at hcs
    obtain ⟨rfl, rfl, rfl⟩ := hcs
    exact ⟨[], rfl, fun j hj => by simp at hj, by simp, by simp⟩
  · simp at hcs
    obtain ⟨rfl, rfl, rfl⟩ := hcs
    subst hx
    simp only [if_true] at hz
    obtain ⟨b, off, spot⟩ := a
    have hlen : (zs.take len).length = len := by simp; omega
    refine ⟨zs.take len, hlen, fun j hj => ?_, fun z hz' => ?_, hl, hm, fun h => by cases h⟩
    · rw [hlen] at hj
      have hspot : spot = none := by simpa [Addr.add] using World.cell?_spot (hcell 0 (by omega))
      subst hspot
      have := hcell j (by omega)
      rw [add_on] at this
      refine ⟨b, off, rfl, lt_of_cell this, ?_⟩
      rw [this]
      simp [List.getD, List.getElem?_eq_getElem (show j < zs.length by omega)]
    · have := hsz z (List.mem_of_mem_take hz')
      simp only [Lit.wf, Bool.and_eq_true, decide_eq_true_eq] at this
      have e1 : IntKind.i64.min = -9223372036854775808 := by decide
      have e2 : IntKind.i64.max = 9223372036854775807 := by decide
      rw [e1, e2] at this
      exact this
def OnesAt (W : World) (a0 : Option Addr) (ls : List (ByteArray × List Int)) : Prop := ∀ j (h : j < ls.length), ∃ b off q c, a0 = some ⟨b, off, none⟩ ∧ b < W.heap.size ∧ W.cell? ⟨b, off + j * 2, none⟩ = some (.string ls[j].1) ∧ W.cell? ⟨b, off + (j * 2 + 1), none⟩ = some (.slice q ls[j].2.length c) ∧ GivenI W q ls[j].2
theorem OnesAt.below {w W : World} {a0 : Option Addr} {ls : List (ByteArray × List Int)} (h : OnesAt w a0 ls) (hB : Below w.heap.size w W) : OnesAt W a0 ls := fun j hj => by
  obtain ⟨b, off, q, c, h1, h2, h3, h4, h5⟩ := h j hj
  exact ⟨b, off, q, c, h1, Nat.lt_of_lt_of_le h2 hB.size, (hB.cell (p := ⟨b, off + j * 2, none⟩) h2).trans h3, (hB.cell (p := ⟨b, off + (j * 2 + 1), none⟩) h2).trans h4, h5.below hB⟩
theorem cells_one : Tryz.prog.cellsOf 46 = 2 := by kernel_rfl
theorem cells_str : Tryz.prog.cellsOf 9 = 1 := by kernel_rfl
theorem cells_sl : Tryz.prog.cellsOf 32 = 1 := by kernel_rfl
theorem list_of {α : Type} {R : Nat → α → Prop} : ∀ k : Nat, (∀ i, i < k → ∃ x, R i x) → ∃ l : List α, l.length = k ∧ ∀ j (h : j < l.length), R j l[j]
  | 0, _ => ⟨[], rfl, fun j h => by simp at h⟩
  | k + 1, h => by
    obtain ⟨l, hl, hr⟩ := list_of k fun i hi => h i (by omega)
    obtain ⟨x, hx⟩ := h k (by omega)
    refine ⟨l ++ [x], by simp [hl], fun j hj => ?_⟩
    rw [List.getElem_append]
    split
    · exact hr j (by assumption)
    · simp at hj
      obtain rfl : j = k := by omega
      simpa [hl] using hx
open Go.ChangeShapes Go.WideShapes in
theorem open_ones {H : Type} {enc : TypeId × Value → H} {W : World} {a0 : Option Addr} {len cap fuel : Nat} {x : DataW H × List MemPlace}
    (hf : DataW.trod enc Tryz.prog W 0 (fun _ => true) true fuel 22 [.slice a0 len cap] = some x) :
    ∃ ls : List (ByteArray × List Int), ls.length = len ∧ OnesAt W a0 ls ∧ (∀ p ∈ ls, p.1.size ≤ maxLen ∧ p.2.length ≤ maxLen) ∧ (len ≤ cap ∧ cap ≤ maxLen ∧ (a0 = none → cap = 0)) := by
  rcases Go.Deep.open_slice_pairs Tryz.underlying22 Tryz.underlying46 cells_one rfl rfl cells_str cells_sl hf with ⟨hcs, hx⟩ | ⟨a, len', cap', m, n, V0, V1, D0, D1, P0, P1, hcs, _, hl, hm, hmm, hx, hall⟩
  · simp at hcs
    obtain ⟨rfl, rfl, rfl⟩ := hcs
    exact ⟨[], rfl, fun j hj => by simp at hj, by simp, by simp⟩
  · simp at hcs
    obtain ⟨rfl, rfl, rfl⟩ := hcs
    simp only [if_true] at hmm
    subst hmm
    obtain ⟨b, off, spot⟩ := a
    have key : ∀ i, i < len → ∃ p : ByteArray × List Int, (∃ q c, spot = none ∧ b < W.heap.size ∧ W.cell? ⟨b, off + i * 2, none⟩ = some (.string p.1) ∧ W.cell? ⟨b, off + (i * 2 + 1), none⟩ = some (.slice q p.2.length c) ∧ GivenI W q p.2) ∧ p.1.size ≤ maxLen ∧ p.2.length ≤ maxLen := fun i hi => by
      obtain ⟨c0, c1, t0, t1⟩ := hall i (by omega)
      have hspot : spot = none := by simpa [Addr.add] using World.cell?_spot (hall 0 (by omega)).1
      subst hspot
      rw [add_on] at c0 c1
      obtain ⟨s, e0, _, hs⟩ := DataW.trod_string Tryz.underlying9 t0
      obtain hv0 : V0 i = .string s := by simpa using e0
      rw [hv0] at c0
      obtain ⟨q, k, c, hv1⟩ : ∃ q k c, V1 i = .slice q k c := by
        rcases open_ints Tryz.underlying32 Tryz.underlying3 cells_int t1 with ⟨h, _⟩ | ⟨a, k, c, _, h, _⟩
        · exact ⟨_, _, _, by simpa using h⟩
        · exact ⟨_, _, _, by simpa using h⟩
      rw [hv1] at c1 t1
      obtain ⟨ls, hk, hg, _, hle, hcm, _⟩ := open_givenI t1
      subst hk
      exact ⟨(s, ls), ⟨q, c, rfl, lt_of_cell c0, c0, c1, hg⟩, hs, by show ls.length ≤ maxLen; omega⟩
    obtain ⟨ls, hlen, hr⟩ := list_of len key
    refine ⟨ls, hlen, fun j hj => ?_, fun p hp => ?_, hl, hm, fun h => by cases h⟩
    · obtain ⟨⟨q, c, hs, hb, h0, h1, h2⟩, _⟩ := hr j hj
      subst hs
      exact ⟨b, off, q, c, rfl, hb, h0, h1, h2⟩
    · obtain ⟨j, hj, rfl⟩ := List.getElem_of_mem hp
      exact (hr j hj).2
end Go.Proofs.YtnchoogjjnjikaaGreatDoor
/- chain. -/
namespace Go.Proofs.YtnchoogjjnjikaaGreatDoor
set_option linter.unusedVariables false
set_option linter.unusedSimpArgs false
open Go.RowKit
attribute [local go_sem ↓] storeAt_lk loadAt_lk
structure CrOk (rs : List (N3 × List Int)) : Prop where
  ring : Ring rs
  nms : ∀ r ∈ rs, OkN r.1
  tys : ∀ r ∈ rs, OwnT r.2 ∨ r.2 = [2, 6, 47]
theorem CrOk.first : CrOk [(exX, [2, 6, 47])] := ⟨Ring.first, fun r hr => by
  obtain rfl : r = (exX, [2, 6, 47]) := by simpa using hr
  exact okX, fun r hr => by
  obtain rfl : r = (exX, [2, 6, 47]) := by simpa using hr
  exact Or.inr rfl⟩
theorem childX_yes (s : ByteArray) (h1 : 1 ≤ s.size) (h2 : s.size ≤ 63) (w : World) : Calls Tryz.prog 12 #[.string s, .string ⟨#[1, 120, 0]⟩] w fun e w' => e = .returned (.tuple #[.string (nm (s.data.toList :: exX)), .int .i64 0]) ∧ Below w.heap.size w w' := by
  have hz : s.data.toList.length = s.size := size_list s
  have := child_in s.data.toList exX (by omega) (by omega) okX w
  rw [if_pos (by rw [nm_size]; simp [flat, exX]; omega)] at this
  exact this
theorem childX_ok (s : ByteArray) (h1 : 1 ≤ s.size) (h2 : s.size ≤ 63) : OkN (s.data.toList :: exX) := by
  have hz : s.data.toList.length = s.size := size_list s
  refine ⟨fun l hl => ?_, by simp [flat, exX]; omega⟩
  rcases List.mem_cons.1 hl with rfl | hl
  · exact ⟨by omega, by omega⟩
  · exact okX.lab l hl
theorem childX_no (s : ByteArray) (hs : s.size ≤ maxLen) (h : ¬ (1 ≤ s.size ∧ s.size ≤ 63)) (w : World) : Calls Tryz.prog 12 #[.string s, .string ⟨#[1, 120, 0]⟩] w fun e w' => e = .returned (.tuple #[.string ⟨#[]⟩, .int .i64 2]) ∧ Below w.heap.size w w' :=
  child_bad s ⟨#[1, 120, 0]⟩ hs (by decide) (fun q => h q.2) w
theorem CrOk.ins {rs : List (N3 × List Int)} (h : CrOk rs) (l : List UInt8) (ho : OkN (l :: exX)) (t : List Int) (ht : OwnT t) (m : Nat) (hm : m ≤ rs.length) (h1 : ∀ j (hj : j < m), cmpN (rs[j]'(by omega)).1 (l :: exX) < 0) (h2 : ∀ hj : m < rs.length, 0 < cmpN rs[m].1 (l :: exX)) : CrOk (insR rs m (l :: exX) t) := by
  have hmem : ∀ r ∈ insR rs m (l :: exX) t, r ∈ rs ∨ r = (l :: exX, t) := fun r hr => by
    unfold insR at hr
    rcases List.mem_append.1 hr with q | q
    · exact Or.inl (List.mem_of_mem_take q)
    · rcases List.mem_cons.1 q with q | q
      · exact Or.inr q
      · exact Or.inl (List.mem_of_mem_drop q)
  refine ⟨h.ring.ins l t ht.cut m hm h1 h2, fun r hr => ?_, fun r hr => ?_⟩
  · rcases hmem r hr with q | rfl
    · exact h.nms r q
    · exact ho
  · rcases hmem r hr with q | rfl
    · exact h.tys r q
    · exact Or.inl ht
theorem insR_fst (rs : List (N3 × List Int)) (m : Nat) (n : N3) (t : List Int) : (insR rs m n t).map Prod.fst = (rs.map Prod.fst).take m ++ [n] ++ (rs.map Prod.fst).drop m := by simp [insR, List.map_take, List.map_drop]
theorem insR_snd (rs : List (N3 × List Int)) (m : Nat) (n : N3) (t : List Int) : (insR rs m n t).map Prod.snd = (rs.map Prod.snd).take m ++ [t] ++ (rs.map Prod.snd).drop m := by simp [insR, List.map_take, List.map_drop]
theorem insR_len (rs : List (N3 × List Int)) (m : Nat) (n : N3) (t : List Int) : (insR rs m n t).length = rs.length + 1 := by simp [insR]; omega
theorem chain0 (W : World) : let Z := ((W.alloc (.cells #[.string ⟨#[1, 120, 0]⟩] 9)).alloc (.cells #[.int .i64 2, .int .i64 6, .int .i64 47] 3)).alloc (.cells #[.slice (some ⟨W.heap.size + 1, 0, none⟩) 3 3] 32)
    NmsAt Z (.slice (some ⟨W.heap.size, 0, none⟩) 1 1) [exX] ∧ TysAt Z (.slice (some ⟨W.heap.size + 1 + 1, 0, none⟩) 1 1) [[2, 6, 47]] ∧ Below W.heap.size W Z := by
  intro Z
  have F := (((Fm.start W).new (Obj.cells #[.string ⟨#[1, 120, 0]⟩] 9 (0, 0))).new (Obj.cells #[.int .i64 2, .int .i64 6, .int .i64 47] 3 (0, 0))).new (Obj.cells #[.slice (some ⟨W.heap.size + 1, 0, none⟩) 3 3] 32 (0, 0))
  have e1 : (W.alloc (.cells #[.string ⟨#[1, 120, 0]⟩] 9)).heap.size = W.heap.size + 1 := by simp
  have e2 : ((W.alloc (.cells #[.string ⟨#[1, 120, 0]⟩] 9)).alloc (.cells #[.int .i64 2, .int .i64 6, .int .i64 47] 3)).heap.size = W.heap.size + 1 + 1 := by simp
  rw [e1, e2] at F
  have g0 := F.get 0 rfl
  have g1 := F.get 1 rfl
  have g2 := F.get 2 rfl
  refine ⟨⟨_, _, rfl, box_lt g2, by decide, by decide, fun j hj => ?_⟩, ⟨_, _, rfl, box_lt g0, by decide, by decide, fun j hj => ?_⟩, F.bel⟩
  · obtain rfl : j = 0 := by simp at hj; omega
    exact (cells_at (j := 0) g2 rfl).1
  · obtain rfl : j = 0 := by simp at hj; omega
    refine ⟨_, (cells_at (j := 0) g0 rfl).1, ⟨_, _, rfl, fun i hi => ?_⟩⟩
    match i, hi with
    | 0, _ => exact ⟨_, rfl, box_lt g1, (cells_at (j := 0) g1 rfl).1⟩
    | 1, _ => exact ⟨_, rfl, box_lt g1, (cells_at (j := 1) g1 rfl).1⟩
    | 2, _ => exact ⟨_, rfl, box_lt g1, (cells_at (j := 2) g1 rfl).1⟩
end Go.Proofs.YtnchoogjjnjikaaGreatDoor
/- Values appended to a row that is one's own. -/
namespace Go.Proofs.YtnchoogjjnjikaaGreatDoor
set_option linter.unusedVariables false
set_option linter.unusedSimpArgs false
open Go.RowKit
def VSrc (W : World) (vx : Value) (us : List Value) : Prop := (vx = .slice none 0 0 ∧ us = []) ∨ ∃ g off cap, vx = .slice (some ⟨g, off, none⟩) us.length cap ∧ ∀ j u, us[j]? = some u → W.cell? ⟨g, off + j, none⟩ = some u
theorem VSrc.one (W : World) (u : Value) (t : TypeId) : VSrc (W.alloc (.cells #[u] t)) (.slice (some ⟨W.heap.size, 0, none⟩) 1 1) [u] := by
  refine .inr ⟨W.heap.size, 0, 1, rfl, fun j v hj => ?_⟩
  obtain ⟨h1, h2⟩ := List.getElem?_eq_some_iff.1 hj
  obtain rfl : j = 0 := by simp at h1; omega
  simp at h2
  subst h2
  exact (cells_at (j := 0) (heap_new W _) rfl).1
theorem rowBaseV {W : World} {n₀ n sz : Nat} {e : TypeId} {v : Value} {xs : List Value} (h : W.ownsRow n₀ e sz v n xs) : ∀ k, v.ownBlock = some k → n₀ ≤ k := by
  intro k e
  rcases h.2 with ⟨rfl, _⟩ | ⟨g, cap, cur, rfl, hb, _⟩
  · simp [Value.ownBlock] at e
  · obtain rfl : g = k := by simpa [Value.ownBlock] using e
    exact hb
theorem wpList_append_vs {W : World} {ops : Array Oper} {rest : List Oper} {o : Oper} {a : Act} {Q : Exit → Act → World → Prop} (t e : TypeId) (z : Value) (bytes : Nat) (hinf : (Tryz.prog.info? e).map (fun i => (i.zero, i.size, i.bytes)) = some (some z, 1, bytes)) (hzs : z.cells.size = 1) (ht : Tryz.prog.underlying t = some (.slice e)) (hby : bytes ≤ 24) (hgd : o.guard = none) (s x : Operand)
    (ho : o.op = .call { callee := .builtin .append, args := #[s, x], argTypes := #[t, t] })
    (base : Nat) (v vx : Value) (n : Nat) (xs us : List Value) (hs : a.eval s = v) (hown : W.ownsRow base e 1 v n xs) (hx : a.eval x = vx) (hsrc : VSrc W vx us) (h1 : ∀ u ∈ us, u.oneCell' = true)
    (hn : n ≤ 1000) (hl : us.length ≤ 1000) (hbase : base ≤ W.heap.size)
    (h : ∀ v' w', w'.ownsRow base e 1 v' (n + us.length) (xs ++ us) → Below base W w' → wpList Tryz.prog ops Q rest (a.put o.dst v') w') : wpList Tryz.prog ops Q (o :: rest) a W := by
  obtain ⟨i0, hi, hz0, hz1, hz2⟩ := info_parts hinf
  rcases hsrc with ⟨rfl, rfl⟩ | ⟨g, off, cap, rfl, hc⟩
  · refine wpList_append_own_none hgd s x t ho base e i0 1 ht hi v n xs hs hown hx ?_
    exact h v W (by simpa using hown) (Below.refl _ _)
  · have hbb : (n + us.length) * bytes ≤ 140737488355328 := Nat.le_trans (Nat.mul_le_mul_left _ hby) (by omega)
    refine wpList_append_own W hgd s x t ho base e i0 z 1 bytes ht hi hz0 hz1 hz2 hzs (by decide) v n xs hs hown ⟨g, off, none⟩ us.length cap us hx (by omega) (fun j u hu => ?_) h1 (by unfold maxLen; omega) hbb hbase ?_
    · rw [add_off]; exact hc j u hu
    · intro v' w' h1 h2 _
      exact h v' w' h1 ((Below.refl base W).grown h2 hbase (rowBaseV hown))
theorem infoTl : (Tryz.prog.info? 32).map (fun i => (i.zero, i.size, i.bytes)) = some (some (.slice none 0 0), 1, 24) := by kernel_rfl
theorem infoIn : (Tryz.prog.info? 3).map (fun i => (i.zero, i.size, i.bytes)) = some (some (.int .i64 0), 1, 8) := by kernel_rfl
def intsI (l : List Int) : List Value := l.map fun n => .int .i64 n
theorem ints_at_row {W : World} {n₀ : Nat} {v : Value} {l : List Int} (h : W.ownsRow n₀ 3 1 v l.length (intsI l)) : IntsAt W v l := by
  rcases h.2 with ⟨rfl, h0⟩ | ⟨g, cap, cur, rfl, hb, hg, hr⟩
  · obtain rfl : l = [] := List.eq_nil_of_length_eq_zero h0
    exact ⟨none, 0, rfl, fun j hj => by simp at hj⟩
  · refine ⟨some ⟨g, 0, none⟩, cap, rfl, fun j hj => ⟨g, rfl, box_lt hg, ?_⟩⟩
    obtain ⟨g', cap', hv, _, _, _, _, hx⟩ := rowz_at h (by omega)
    cases hv
    exact hx j _ (by simp [intsI, hj])
theorem row_formV {W : World} {n₀ n sz : Nat} {e : TypeId} {v : Value} {xs : List Value} (h : W.ownsRow n₀ e sz v n xs) : ∃ q c, v = .slice q n c := by
  rcases h.2 with ⟨rfl, rfl⟩ | ⟨g, cap, cur, rfl, _⟩
  · exact ⟨_, _, rfl⟩
  · exact ⟨_, _, rfl⟩
theorem row_capV {W : World} {n₀ n : Nat} {e : TypeId} {q : Option Addr} {c : Nat} {xs : List Value} (h : W.ownsRow n₀ e 1 (.slice q n c) n xs) : (q = none ∧ n = 0 ∧ c = 0) ∨ ∃ g, q = some ⟨g, 0, none⟩ ∧ n ≤ c ∧ g < W.heap.size ∧ n₀ ≤ g ∧ ∀ j u, xs[j]? = some u → W.cell? ⟨g, j, none⟩ = some u := by
  rcases Nat.eq_zero_or_pos n with h0 | h0
  · rcases h.2 with ⟨hv, _⟩ | ⟨g, cap, cur, hv, hb, hg, hr⟩
    · cases hv; exact .inl ⟨rfl, h0, rfl⟩
    · cases hv
      have hx0 : xs = [] := List.eq_nil_of_length_eq_zero (by rw [h.1, h0])
      exact .inr ⟨g, rfl, by omega, box_lt hg, hb, fun j u hu => by rw [hx0] at hu; simp at hu⟩
  · obtain ⟨g', cap', hv, hb, hg, hn, _, hx⟩ := rowz_at h h0
    cases hv
    exact .inr ⟨g', rfl, hn, hg, hb, hx⟩
theorem VSrc.blk {W W' : World} {vx : Value} {us : List Value} {g off cap : Nat} (hv : vx = .slice (some ⟨g, off, none⟩) us.length cap) (h : ∀ j u, us[j]? = some u → W.cell? ⟨g, off + j, none⟩ = some u) {n : Nat} (hg : g < n) (hb : Below n W W') : VSrc W' vx us :=
  .inr ⟨g, off, cap, hv, fun j u hu => (hb.cell (p := ⟨g, off + j, none⟩) hg).trans (h j u hu)⟩
theorem bel3 {n : Nat} {A B C : World} {o : Obj} (h1 : Below n A B) (h2 : Below n (B.alloc o) C) (hn : n ≤ A.heap.size) : Below n A C := (h1.alloc (Nat.le_trans hn h1.size) _).trans h2
end Go.Proofs.YtnchoogjjnjikaaGreatDoor