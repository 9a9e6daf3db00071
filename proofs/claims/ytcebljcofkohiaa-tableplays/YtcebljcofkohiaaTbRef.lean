/- Layer 11: the document's table: a list in memory. -/
import Derived.Laws.AppendOwnNone
import Derived.Test.YtcebljcofkohiaaTbKeepW
namespace Go.Proofs.Ytcebljcofkohiaa
set_option linter.unusedVariables false
open Go.RowKit

abbrev tPr : TypeId := 69
abbrev tPs : TypeId := 29
def pairC (l : KV) : List Value := l.flatMap fun p => [.string p.1, .int .i64 p.2]
theorem pairC_len (l : KV) : (pairC l).length = l.length * 2 := by
  induction l with
  | nil => rfl
  | cons a l ih => simp only [pairC, List.flatMap_cons, List.length_append, List.length_cons, List.length_nil] at ih ⊢; omega
theorem pairC_app (a b : KV) : pairC (a ++ b) = pairC a ++ pairC b := by simp [pairC]
theorem pairC_get : ∀ (l : KV) (j : Nat) (h : j < l.length), (pairC l)[j * 2]? = some (.string l[j].1) ∧ (pairC l)[j * 2 + 1]? = some (.int .i64 l[j].2)
  | p :: l, 0, h => by simp [pairC]
  | p :: l, j + 1, h => by
    have ih := pairC_get l j (by simpa using h)
    have e : pairC (p :: l) = .string p.1 :: .int .i64 p.2 :: pairC l := by simp [pairC]
    rw [e, show (j + 1) * 2 = (j * 2) + 1 + 1 by omega]
    simpa using ih
theorem pairC_take (l : KV) (i : Nat) : pairC (l.take i) = (pairC l).take (i * 2) := by
  induction l generalizing i with
  | nil => simp [pairC]
  | cons p l ih =>
    cases i with
    | zero => simp [pairC]
    | succ i =>
      have e : ∀ l, pairC (p :: l) = .string p.1 :: .int .i64 p.2 :: pairC l := fun l => by simp [pairC]
      rw [List.take_succ_cons, e, e, show (i + 1) * 2 = (i * 2) + 1 + 1 by omega, List.take_succ_cons, List.take_succ_cons, ih]
theorem pairC_drop (l : KV) (i : Nat) : pairC (l.drop i) = (pairC l).drop (i * 2) := by
  induction l generalizing i with
  | nil => simp [pairC]
  | cons p l ih =>
    cases i with
    | zero => simp
    | succ i =>
      have e : ∀ l, pairC (p :: l) = .string p.1 :: .int .i64 p.2 :: pairC l := fun l => by simp [pairC]
      rw [List.drop_succ_cons, e, show (i + 1) * 2 = (i * 2) + 1 + 1 by omega, List.drop_succ_cons, List.drop_succ_cons, ih]
theorem pairC_one (l : KV) : ∀ u ∈ pairC l, u.oneCell' = true := by
  intro u hu
  obtain ⟨p, _, h⟩ := List.mem_flatMap.1 hu
  simp at h
  rcases h with rfl | rfl <;> rfl
theorem infoPr : (Try.prog.info? tPr).map (fun i => (i.zero, i.size, i.bytes)) = some (some (.agg #[.string ⟨#[]⟩, .int .i64 0]), 2, 24) := by kernel_rfl
def rApp (a : Array Value) : Sem Value := Builtin.append_ #[tPs, tPs] tPs a
theorem app_r (a : Array Value) : Builtin.append_ #[tPs, tPs] tPs a = rApp a := rfl

/-- pairs that lie in a slice, or none. -/
def PSrc (W : World) (vx : Value) (l : KV) : Prop := (vx = .slice none 0 0 ∧ l = []) ∨ ∃ ad cap, vx = .slice (some ad) l.length cap ∧ ∀ j u, (pairC l)[j]? = some u → W.cell? (ad.add j) = some u

theorem rapp {W : World} {base n : Nat} {v vx : Value} {xs : List Value} {l : KV} (hown : W.ownsRow base tPr 2 v n xs) (hsrc : PSrc W vx l) (hn : n ≤ 1000000) (hl : l.length ≤ 1000000) (hb : base ≤ W.heap.size) :
    ∃ v' w', (rApp #[v, vx]).run Try.prog W = .ok v' w' ∧ w'.ownsRow base tPr 2 v' (n + l.length) (xs ++ pairC l) ∧ W.grownBy w' v.ownBlock := by
  obtain ⟨i0, hi, hz0, hz1, hz2⟩ := info_parts infoPr
  rcases hsrc with ⟨rfl, rfl⟩ | ⟨ad, cap, rfl, hc⟩
  · refine ⟨v, W, run_append_owned_none (P := Try.prog) (w := W) base tPs tPs tPr i0 2 Try.underlying29 hi v n xs hown, by simpa [pairC] using hown, ?_⟩
    exact ⟨rfl, rfl, rfl, Nat.le_refl _, fun _ _ _ => rfl⟩
  · obtain ⟨v', w', h1, h2, h3, _⟩ := run_append_own (P := Try.prog) W base tPs tPs tPr i0 _ 2 24 Try.underlying29 hi hz0 hz1 hz2 rfl (by decide) v n xs hown ad l.length cap (pairC l) (pairC_len l) hc (pairC_one l) (by unfold maxLen; omega) (by omega) hb
    exact ⟨v', w', h1, h2, h3⟩
theorem row_below {W w' : World} {base e size k : Nat} {v : Value} {xs : List Value} (hr : W.ownsRow base e size v k xs) {N : Nat} (hN : N ≤ base) (hW : N ≤ W.heap.size) (hg : W.grownBy w' v.ownBlock) : Below N W w' :=
  (Below.refl N W).grown hg hW (fun k e => by have := row_base hr e.symm; omega)

/-- the document's table in memory. -/
structure RefAt (W : World) (B X : Nat) (m : Int) (l : KV) : Prop where
  tab : ∃ v, W.heap[X]? = some (.cells #[.int .i64 m, v] 31 (0, 0)) ∧ W.ownsRow B tPr 2 v l.length (pairC l)
  len : l.length ≤ 100001
theorem RefAt.get {W : World} {B X : Nat} {m : Int} {l : KV} (h : RefAt W B X m l) : ∃ q cap, W.heap[X]? = some (.cells #[.int .i64 m, .slice q l.length cap] 31 (0, 0)) ∧ W.ownsRow B tPr 2 (.slice q l.length cap) l.length (pairC l) ∧ l.length ≤ cap ∧
    ∀ j (h : j < l.length), ∃ g, q = some ⟨g, 0, none⟩ ∧ g < W.heap.size ∧ W.cell? ⟨g, j * 2, none⟩ = some (.string l[j].1) ∧ W.cell? ⟨g, j * 2 + 1, none⟩ = some (.int .i64 l[j].2) := by
  obtain ⟨v, h1, h2⟩ := h.tab
  obtain ⟨q, cap, rfl⟩ := row_shape h2
  refine ⟨q, cap, h1, h2, ?_, fun j hj => ?_⟩
  · rcases h2.2 with ⟨h3, h4⟩ | ⟨g, cap', cur, h3, _, _, h5, _⟩
    · omega
    · cases h3; exact h5
  · rcases h2.2 with ⟨_, h4⟩ | ⟨g, cap', cur, h3, _, hg, _, _, _, ht⟩
    · omega
    · cases h3
      obtain ⟨e1, e2⟩ := pairC_get l j hj
      have ce : ∀ j u, (pairC l)[j]? = some u → W.cell? ⟨g, j, none⟩ = some u := fun j u hu => by
        rw [← ht, List.getElem?_take] at hu
        split at hu
        · rw [cell_of_row _ _ _ _ _ _ hg]
          simpa using hu
        · cases hu
      exact ⟨g, rfl, blk_lt hg, ce _ _ e1, ce _ _ e2⟩
theorem RefAt.frn {W W' : World} {B X : Nat} {m : Int} {l : KV} (h : RefAt W B X m l) (hf : Frn W W') : RefAt W' B X m l := by
  obtain ⟨v, h1, h2⟩ := h.tab
  exact ⟨⟨v, hf.same X _ _ _ h1 (by decide) (by decide), hf.row h2 (by decide) (by decide)⟩, h.len⟩
theorem RefAt.blk {W W' : World} {B X : Nat} {m : Int} {l : KV} (h : RefAt W B X m l) (hb : Below W.heap.size W W') : RefAt W' B X m l := h.frn (Frn.below hb)

/-- the place of a key. -/
def fidx (l : KV) (k : ByteArray) : Option Nat := l.findIdx? fun p => decide (p.1 = k)
def fidxV (l : KV) (k : ByteArray) : Int := match fidx l k with | some i => (i : Int) | none => -1

set_option maxRecDepth 100000 in
set_option maxHeartbeats 1000000 in
theorem rfind_in {W : World} {B X : Nat} {m : Int} {l : KV} (h : RefAt W B X m l) (k : ByteArray) :
    Calls Try.prog 28 #[pt X, .string k] W fun e w' => e = .returned (.int .i64 (fidxV l k)) ∧ w' = W := by
  obtain ⟨q, cap, h1, h2, hlc, hc⟩ := h.get
  have hlen := h.len
  have cL : W.cell? ⟨X, 1, none⟩ = some (.slice q l.length cap) := by rw [cell_of_row _ _ _ _ _ _ h1]; rfl
  have HC := Hid.mk hc
  obtain ⟨n, hn⟩ : ∃ n, l.length = n := ⟨_, rfl⟩
  have HN := Hid.mk hn
  rw [hn] at cL hlen hlc
  obtain ⟨R, hR⟩ : ∃ R, fidxV l k = R := ⟨_, rfl⟩
  have HR := Hid.mk hR
  rw [hR]
  clear h h1 h2 hc hn hR
  go_enter Try.func28, Try.ntmps28
  go_wp2
  go_loopw [5] (fun j wr => ∃ x : Nat, x ≤ n ∧ j = .int .i64 (x : Int) ∧ Hid (∀ y (h : y < l.length), y < x → l[y].1 ≠ k) ∧ Hid (wr = W)) (fun j _ => n - (intOf j).toNat)
  case atStart => exact ⟨0, Nat.zero_le _, rfl, fun y _ h => by omega, rfl⟩
  case round =>
    obtain ⟨x, hx, rfl, hno, hwr⟩ := hrel
    obtain rfl : wr = W := hwr.out
    by_cases hxn : x < n
    · have hxl : x < l.length := by rw [HN.out]; exact hxn
      obtain ⟨g, rfl, _, hcx, _⟩ := HC.out x hxl
      by_cases hk : l[x].1 = k
      · rw [hk] at hcx
        have hfi : R = (x : Int) := by
          rw [← HR.out]
          have : fidx l k = some x := by
            unfold fidx
            rw [List.findIdx?_eq_some_iff_getElem]
            exact ⟨hxl, by simp [hk], fun y hy => by simpa using hno.out y (by omega) hy⟩
          unfold fidxV
          rw [this]
        clear hk
        go_wp2
        go_ret
        exact ⟨rfl, rfl⟩
      · obtain ⟨sx, hsx⟩ : ∃ s, l[x].1 = s := ⟨_, rfl⟩
        rw [hsx] at hcx hk
        have hne : (sx.toList == k.toList) = false := beq_eq_false_iff_ne.2 (toList_ne hk)
        have HNx : Hid (∀ y (h : y < l.length), y < x + 1 → l[y].1 ≠ k) := fun y hy hyx => by
          by_cases e : y = x
          · subst e; rw [hsx]; exact hk
          · exact hno.out y hy (by omega)
        clear hsx hk hno
        go_wp2
        refine ⟨⟨x + 1, hxn, by go_num, HNx, trivial⟩, by simp [intOf]; omega⟩
    · obtain rfl : x = n := by omega
      have hfi : R = -1 := by
        rw [← HR.out]
        have : fidx l k = none := by
          unfold fidx
          rw [List.findIdx?_eq_none_iff]
          intro p hp
          obtain ⟨y, hy, rfl⟩ := List.getElem_of_mem hp
          simpa using hno.out y hy (by rw [HN.out] at hy; exact hy)
        unfold fidxV
        rw [this]
      clear hno
      go_wp2
      go_ret
      exact ⟨rfl, rfl⟩

attribute [local go_sem ↓] app_r
set_option maxRecDepth 100000 in
set_option maxHeartbeats 1000000 in
theorem rwithout_in {W : World} {B X : Nat} {m : Int} {l : KV} (h : RefAt W B X m l) (i : Nat) (hi : i < l.length) :
    Calls Try.prog 29 #[pt X, .int .i64 (i : Int)] W fun e w' => (∃ v, e = .returned v ∧ w'.ownsRow W.heap.size tPr 2 v (l.eraseIdx i).length (pairC (l.eraseIdx i))) ∧ Below W.heap.size W w' := by
  obtain ⟨q, cap, h1, h2, hlc, hc⟩ := h.get
  have hlen := h.len
  have cL : W.cell? ⟨X, 1, none⟩ = some (.slice q l.length cap) := by rw [cell_of_row _ _ _ _ _ _ h1]; rfl
  obtain ⟨g, rfl, hgW, -, -⟩ := hc i hi
  have ce : ∀ j u, (pairC l)[j]? = some u → W.cell? ⟨g, j, none⟩ = some u := by
    rcases h2.2 with ⟨_, h4⟩ | ⟨g', cap', cur, h3, _, hg, _, _, _, ht⟩
    · omega
    · cases h3
      intro j u hu
      rw [← ht, List.getElem?_take] at hu
      split at hu
      · rw [cell_of_row _ _ _ _ _ _ hg]
        simpa using hu
      · cases hu
  obtain ⟨v1, w1, hap1, hr1, hg1⟩ := rapp (base := W.heap.size) (vx := .slice (some ⟨g, 0, none⟩) i cap) (l := l.take i) (World.ownsRow_nil W W.heap.size tPr 2) (.inr ⟨_, _, by rw [List.length_take, Nat.min_eq_left (by omega)], fun j u hu => by
    rw [add_on, Nat.zero_add]
    rw [pairC_take, List.getElem?_take] at hu
    split at hu
    · exact ce j u hu
    · cases hu⟩) (by decide) (by rw [List.length_take]; omega) (Nat.le_refl _)
  have hb1 : Below W.heap.size W w1 := (Below.refl _ _).grown hg1 (Nat.le_refl _) (fun k e => by simp [Value.ownBlock] at e)
  rw [List.nil_append, Nat.zero_add, List.length_take, Nat.min_eq_left (by omega)] at hr1
  have cL1 : w1.cell? ⟨X, 1, none⟩ = some (.slice (some ⟨g, 0, none⟩) l.length cap) := (hb1.cell (p := ⟨X, 1, none⟩) (blk_lt h1)).trans cL
  have hfin : ∀ sv, PSrc w1 sv (l.drop (i + 1)) → ∃ q2 c2 w2, (rApp #[v1, sv]).run Try.prog w1 = .ok (.slice q2 (i + (l.length - (i + 1))) c2) w2 ∧ Hid (w2.ownsRow W.heap.size tPr 2 (.slice q2 (i + (l.length - (i + 1))) c2) (l.eraseIdx i).length (pairC (l.eraseIdx i)) ∧ Below W.heap.size W w2) := fun sv hsv => by
    obtain ⟨v2, w2, hap2, hr2, hg2⟩ := rapp hr1 hsv (by omega) (by rw [List.length_drop]; omega) hb1.size
    rw [List.length_drop] at hr2
    obtain ⟨q2, c2, rfl⟩ := row_shape hr2
    have e : l.eraseIdx i = l.take i ++ l.drop (i + 1) := List.eraseIdx_eq_take_drop_succ _ _
    refine ⟨q2, c2, w2, hap2, ?_, hb1.trans (row_below hr1 (Nat.le_refl _) hb1.size hg2)⟩
    rw [e, pairC_app, List.length_append, List.length_take, Nat.min_eq_left (by omega), List.length_drop]
    exact hr2
  obtain ⟨q1, c1, rfl⟩ := row_shape hr1
  by_cases hcap : cap = i + 1
  · have hn : l.length = i + 1 := by omega
    obtain ⟨q2, c2, w2, hap2, hF⟩ := hfin (.slice (some ⟨g, 0, none⟩) 0 0) (.inr ⟨_, _, by rw [List.length_drop, hn, Nat.sub_self], fun j u hu => by rw [List.drop_eq_nil_of_le (by omega)] at hu; simp [pairC] at hu⟩)
    rw [hn] at cL cL1 hap2 hF
    rw [show i + (i + 1 - (i + 1)) = i by omega] at hF hap2
    subst hcap
    replace hlen : i + 1 ≤ 100001 := by omega
    clear h h1 h2 hc ce hfin hr1 hg1 hlc hn hi
    go_enter Try.func29, Try.ntmps29
    go_wp2
    go_ret
    exact ⟨⟨_, rfl, hF.out.1⟩, hF.out.2⟩
  · obtain ⟨q2, c2, w2, hap2, hF⟩ := hfin (.slice (some ⟨g, (i + 1) * 2, none⟩) (l.length - (i + 1)) (cap - (i + 1))) (.inr ⟨_, _, by rw [List.length_drop], fun j u hu => by
      rw [add_on]
      rw [pairC_drop, List.getElem?_drop] at hu
      exact (hb1.cell (p := ⟨g, (i + 1) * 2 + j, none⟩) hgW).trans (ce _ u hu)⟩)
    obtain ⟨n, hn⟩ : ∃ n, l.length = n := ⟨_, rfl⟩
    rw [hn] at cL cL1 hap2 hlc hi hlen hF
    clear h h1 h2 hc ce hfin hr1 hg1 hn
    go_enter Try.func29, Try.ntmps29
    go_wp2
    go_ret
    exact ⟨⟨_, rfl, hF.out.1⟩, hF.out.2⟩

/-! ### what the list's places are -/
theorem fidx_some {l : KV} {k : ByteArray} {i : Nat} (h : fidx l k = some i) (hn : (l.map Prod.fst).Nodup) : ∃ hi : i < l.length, l[i].1 = k ∧ l.eraseIdx i = without l k ∧ getR l k = some l[i].2 := by
  unfold fidx at h
  obtain ⟨hi, h1, h2⟩ := List.findIdx?_eq_some_iff_getElem.1 h
  have hk : l[i].1 = k := by simpa using h1
  refine ⟨hi, hk, ?_, getR_mem hn (by rw [← hk]; exact List.getElem_mem hi)⟩
  have e : l = l.take i ++ l[i] :: l.drop (i + 1) := by rw [List.getElem_cons_drop, List.take_append_drop]
  have hne : ∀ p ∈ l.take i ++ l.drop (i + 1), p.1 ≠ k := fun p hp hpk => by
    have hn2 := hn
    rw [e, List.map_append, List.map_cons] at hn2
    have := List.perm_middle.nodup_iff.1 hn2
    refine (List.nodup_cons.1 this).1 ?_
    rw [hk, ← hpk]
    rw [← List.map_append]
    exact List.mem_map_of_mem hp
  have : without l k = l.take i ++ l.drop (i + 1) := by
    unfold without
    conv => lhs; rw [e]
    rw [List.filter_append, List.filter_cons_of_neg (by simp [hk]), ← List.filter_append, List.filter_eq_self.2 (fun p hp => by simpa using hne p hp)]
  rw [this, List.eraseIdx_eq_take_drop_succ]
theorem fidx_none {l : KV} {k : ByteArray} (h : fidx l k = none) : without l k = l ∧ getR l k = none := by
  unfold fidx at h
  rw [List.findIdx?_eq_none_iff] at h
  refine ⟨List.filter_eq_self.2 (fun p hp => by simpa using h p hp), ?_⟩
  unfold getR
  rw [List.find?_eq_none.2 (fun p hp => by simpa using h p hp)]
  rfl

theorem rlook_in {W : World} {B X : Nat} {m : Int} {l : KV} (h : RefAt W B X m l) (hn : (l.map Prod.fst).Nodup) (k : ByteArray) :
    Calls Try.prog 14 #[pt X, .string k] W fun e w' => e = .returned (.tuple #[.int .i64 ((getR l k).getD 0), .bool (getR l k).isSome]) ∧ w' = W := by
  have HF := Hid.mk (rfind_in h k)
  cases hf : fidx l k with
  | none =>
    rw [(fidx_none hf).2]
    rw [show fidxV l k = -1 by unfold fidxV; rw [hf]] at HF
    clear h hn hf
    go_enter Try.func14, Try.ntmps14
    go_wp2_with fail
    refine HF.out.mono ?_
    rintro r w' ⟨rfl, rfl⟩
    go_wp2
    go_ret2
    exact ⟨rfl, rfl⟩
  | some i =>
    obtain ⟨hi, _, _, hg⟩ := fidx_some hf hn
    rw [hg]
    rw [show fidxV l k = (i : Int) by unfold fidxV; rw [hf]] at HF
    obtain ⟨q, cap, h1, h2, hlc, hc⟩ := h.get
    have cL : W.cell? ⟨X, 1, none⟩ = some (.slice q l.length cap) := by rw [cell_of_row _ _ _ _ _ _ h1]; rfl
    obtain ⟨g, rfl, _, _, hcv⟩ := hc i hi
    obtain ⟨v, hv⟩ : ∃ v, l[i].2 = v := ⟨_, rfl⟩
    rw [hv] at hcv ⊢
    have hlen := h.len
    obtain ⟨n, hnn⟩ : ∃ n, l.length = n := ⟨_, rfl⟩
    have hin : i < n := by omega
    rw [hnn] at cL hlen hlc
    clear h hn hf hc h1 h2 hv hg hnn
    go_enter Try.func14, Try.ntmps14
    go_wp2_with fail
    refine HF.out.mono ?_
    rintro r w' ⟨rfl, rfl⟩
    go_wp2
    go_ret2
    exact ⟨rfl, rfl⟩

/-- another list stored. -/
theorem RefAt.store {W w1 : World} {B X : Nat} {m : Int} {l l' : KV} (h : RefAt W B X m l) (hb : Below W.heap.size W w1) {v : Value} (hr : w1.ownsRow W.heap.size tPr 2 v l'.length (pairC l')) (hB : B ≤ W.heap.size) (hl : l'.length ≤ 100001) :
    RefAt (w1.setCell ⟨X, 1, none⟩ v) B X m l' ∧ (∀ N, N ≤ X → N ≤ W.heap.size → Below N W (w1.setCell ⟨X, 1, none⟩ v)) ∧ w1.cell? ⟨X, 1, none⟩ ≠ none ∧ w1.frozen? ⟨X, 1, none⟩ = false ∧ (∀ b, b < W.heap.size → b ≠ X → (w1.setCell ⟨X, 1, none⟩ v).heap[b]? = W.heap[b]?) := by
  obtain ⟨q, cap, h1, _, _, _⟩ := h.get
  have h1' : w1.heap[X]? = some (.cells #[.int .i64 m, .slice q l.length cap] 31 (0, 0)) := (hb.block X (blk_lt h1)).trans h1
  have hX := blk_lt h1
  refine ⟨⟨⟨v, heap_set_same h1' 1 v, ?_⟩, hl⟩, fun N hN hW => (hb.mono hW).setCell (p := ⟨X, 1, none⟩) hN _, by rw [cell_of_row _ _ _ _ _ _ h1']; simp, frozen_of h1' 1, fun b hb' hne => (Below.heap_setCell _ _ _ _ hne).trans (hb.block b hb')⟩
  obtain ⟨hl', h0 | ⟨g, cp, cur, hv, hb', hg, r⟩⟩ := hr
  · exact ⟨hl', .inl h0⟩
  · exact ⟨hl', .inr ⟨g, cp, cur, hv, by omega, (Below.heap_setCell _ _ _ _ (show g ≠ X by omega)).trans hg, r⟩⟩

end Go.Proofs.Ytcebljcofkohiaa
