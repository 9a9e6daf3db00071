/- Texts of this proof, joined: ZSides, ZLaid, ZRing, ZRing2, ZKeys, ZGd. -/
import Derived.Test.YtnchoogjjnjikaaGreatDoorJ17
import Derived.OpenShut
import Derived.WalkKit
import Derived.ProofKit
import Derived.Lib.LaidTab
import Derived.Deep.DeepHandedRow
import Derived.Test.YtnchoogjjnjikaaGreatDoorTie
import Derived.Test.YtnchoogjjnjikaaGreatDoorCards
import Derived.Test.YtnchoogjjnjikaaGreatDoorJ14
/- DenialSides. -/
namespace Go.Proofs.YtnchoogjjnjikaaGreatDoor
set_option linter.unusedVariables false
set_option linter.unusedSimpArgs false
open Go.RowKit
attribute [local go_sem ↓] storeAt_lk loadAt_lk
theorem cmpN_ne {a b : List (List UInt8)} (h : eqB a b = false) : cmpN a b ≠ 0 := fun e => by
  have h1 := cmpR_zero e
  have h2 : lowN a = lowN b := List.reverse_inj.1 h1
  unfold eqB at h
  rw [decide_eq_true h2] at h
  simp at h
theorem cmpN_anti (a b : List (List UInt8)) : cmpN b a = - cmpN a b := cmpR_anti _ _
theorem cmpN_refl (a : List (List UInt8)) : cmpN a a = 0 := cmpR_refl _
structure ZG (W : World) : Prop where
  ok : True
theorem zg_of {W : World} {l : List (String × DataW Unit)} (h : laidMet Tryz.prog l W) (hs : W.ShapedOpen Tryz.prog) : ZG W := ⟨trivial⟩
end Go.Proofs.YtnchoogjjnjikaaGreatDoor
/- A world for the witnesses: what the row lists lies there; no walk reads it. -/
namespace Go.Proofs.YtnchoogjjnjikaaGreatDoor
set_option linter.unusedVariables false
open Go.RowKit
def klit1 : DataW Unit → List Value
  | .lit (.int k n) => [.int k n]
  | .lit (.string s) => [.string ⟨s.toArray⟩]
  | _ => []
def kflat2 : DataW Unit → Array Value
  | .agg l => (l.flatMap fun x => match x with
    | .agg l2 => l2.flatMap klit1
    | x => klit1 x).toArray
  | _ => #[]
def kerrS : DataW Unit → ByteArray
  | .iface _ (.ptr (.agg [.lit (.string s)])) => ⟨s.toArray⟩
  | _ => ⟨#[]⟩
noncomputable def laidWorld (os : Os) : World :=
  let N := (World.settled Tryz.prog os).heap.size
  let w0 := World.holding Tryz.prog os ⟨#[.cells #[.string (kerrS Rows.laid_strconv_ErrSyntax)] 249, .cells #[.string (kerrS Rows.laid_strconv_ErrRange)] 249], #[], []⟩
  let put (h : Array Obj) (g : Nat) (cs : Array Value) : Array Obj := h.modify g fun
    | .cells _ t frozen => .cells cs t frozen
    | o => o
  let h0 := put w0.heap 1 (kflat2 Rows.laid_guidepost_data_typeTexts)
  let h2 := put h0 2 (kflat2 Rows.laid_internal_strconv_uint64pow10)
  let h3 := put h2 3 #[.iface 247 (.pointer (some ⟨N, 0, none⟩))]
  let h4 := put h3 4 #[.iface 247 (.pointer (some ⟨N + 1, 0, none⟩))]
  let h5 := put h4 7 (kflat2 Rows.laid_math_bits_deBruijn32tab)
  let h6 := put h5 8 (kflat2 Rows.laid_math_bits_deBruijn64tab)
  let h7 := put h6 5 (kflat2 Rows.laid_unicode_utf8_first)
  let h8 := put h7 6 (kflat2 Rows.laid_unicode_utf8_acceptRanges)
  { w0 with heap := h8 }
end Go.Proofs.YtnchoogjjnjikaaGreatDoor
/- What a whole chain proves. -/
namespace Go.Proofs.YtnchoogjjnjikaaGreatDoor
set_option linter.unusedVariables false
set_option linter.unusedSimpArgs false
open Go.RowKit
attribute [local go_sem ↓] storeAt_lk loadAt_lk
abbrev N3 := List (List UInt8)
theorem cmpN_sign (a b : N3) : cmpN a b = -1 ∨ cmpN a b = 0 ∨ cmpN a b = 1 := cmpR_sign _ _
theorem cmpN_tr {a b c : N3} (h1 : cmpN a b ≤ 0) (h2 : cmpN b c ≤ 0) : cmpN a c ≤ 0 := cmpR_trans h1 h2
theorem cmpN_zero_low {a b : N3} (h : cmpN a b = 0) : lowN a = lowN b := List.reverse_inj.1 (cmpR_zero h)
theorem cmpN_congr {a b c : N3} (h : lowN a = lowN b) : cmpN a c = cmpN b c ∧ cmpN c a = cmpN c b := by
  unfold cmpN; rw [h]; exact ⟨rfl, rfl⟩
theorem cmpN_lt_tr {a b c : N3} (h1 : cmpN a b < 0) (h2 : cmpN b c < 0) : cmpN a c < 0 := by
  have h3 := cmpN_tr (Int.le_of_lt h1) (Int.le_of_lt h2)
  rcases Int.lt_or_eq_of_le h3 with h | h
  · exact h
  · have e := cmpN_zero_low h
    have := (cmpN_congr (c := b) e).1
    have h4 := cmpN_anti c b
    have h5 := cmpN_anti b c
    omega
theorem eqB_iff {a b : N3} : eqB a b = true ↔ lowN a = lowN b := by unfold eqB; exact decide_eq_true_iff
theorem eqB_cmp {a b : N3} : eqB a b = true ↔ cmpN a b = 0 := ⟨fun h => by rw [(cmpN_congr (eqB_iff.1 h)).1, cmpN_refl], fun h => eqB_iff.2 (cmpN_zero_low h)⟩
structure Ring (rs : List (N3 × List Int)) : Prop where
  pos : 0 < rs.length
  srt : ∀ i j (hi : i < j) (hj : j < rs.length), cmpN (rs[i]'(by omega)).1 rs[j].1 < 0
  fst : (rs[0]'pos).1 = exX
  und : ∀ r ∈ rs, r.1 = exX ∨ ∃ l, r.1 = l :: exX
  cut : ∀ r ∈ rs, delB r.2 = false ∧ hasB r.2 39 = false
def ringK (rs : List (N3 × List Int)) : List Lk := rs.mapIdx fun i r => ⟨r.1, ((rs[(i + 1) % rs.length]?).getD r).1, r.2⟩
theorem ringK_len (rs : List (N3 × List Int)) : (ringK rs).length = rs.length := by simp [ringK]
theorem ringK_at (rs : List (N3 × List Int)) (i : Nat) (h : i < rs.length) : (ringK rs)[i]'(by rw [ringK_len]; exact h) = ⟨rs[i].1, (rs[(i + 1) % rs.length]'(Nat.mod_lt _ (by omega))).1, rs[i].2⟩ := by
  have : (i + 1) % rs.length < rs.length := Nat.mod_lt _ (by omega)
  simp [ringK, List.getElem?_eq_getElem this]
theorem ringK_mem {rs : List (N3 × List Int)} {k : Lk} (h : k ∈ ringK rs) : ∃ (i : Nat) (hi : i < rs.length), k = ⟨rs[i].1, (rs[(i + 1) % rs.length]'(Nat.mod_lt _ (by omega))).1, rs[i].2⟩ := by
  obtain ⟨i, hi, rfl⟩ := List.getElem_of_mem h
  rw [ringK_len] at hi
  exact ⟨i, hi, ringK_at rs i hi⟩
theorem Ring.cov {rs : List (N3 × List Int)} (h : Ring rs) (i : Nat) (hi : i < rs.length) (n : N3) : covB ((ringK rs)[i]'(by rw [ringK_len]; exact hi)) n = btwB rs[i].1 n (rs[(i + 1) % rs.length]'(Nat.mod_lt _ (by omega))).1 := by
  rw [ringK_at rs i hi]
  obtain ⟨h1, h2⟩ := h.cut rs[i] (List.getElem_mem _)
  unfold covB
  simp [h1, h2]
theorem Ring.cmp {rs : List (N3 × List Int)} (h : Ring rs) (i j : Nat) (hi : i < rs.length) (hj : j < rs.length) : (cmpN rs[i].1 rs[j].1 < 0 ↔ i < j) ∧ (cmpN rs[i].1 rs[j].1 = 0 ↔ i = j) := by
  rcases Nat.lt_trichotomy i j with h1 | h1 | h1
  · have := h.srt i j h1 hj
    exact ⟨⟨fun _ => h1, fun _ => this⟩, ⟨fun e => by omega, fun e => by omega⟩⟩
  · subst h1
    have := cmpN_refl rs[i].1
    exact ⟨⟨fun e => by omega, fun e => by omega⟩, ⟨fun _ => rfl, fun _ => this⟩⟩
  · have h2 := h.srt j i h1 hi
    have h3 := cmpN_anti rs[i].1 rs[j].1
    exact ⟨⟨fun e => by omega, fun e => by omega⟩, ⟨fun e => by omega, fun e => by omega⟩⟩
theorem Ring.none_btw {rs : List (N3 × List Int)} (h : Ring rs) (i j : Nat) (hi : i < rs.length) (hj : j < rs.length) (n : N3) (hn : lowN n = lowN rs[i].1) : btwB rs[j].1 n (rs[(j + 1) % rs.length]'(Nat.mod_lt _ (by omega))).1 = false := by
  have hp := h.pos
  unfold btwB gapB
  rw [(cmpN_congr hn).1, (cmpN_congr hn).1]
  by_cases hl : j + 1 < rs.length
  · have e : (j + 1) % rs.length = j + 1 := Nat.mod_eq_of_lt hl
    have a := h.cmp j (j + 1) hj hl
    have b := h.cmp i j hi hj
    have c := h.cmp i (j + 1) hi hl
    simp only [e]
    rw [if_pos (a.1.2 (by omega))]
    by_cases h1 : 0 < cmpN rs[i].1 rs[j].1
    · have : ¬ cmpN rs[i].1 rs[j + 1].1 < 0 := fun h2 => by
        have := c.1.1 h2
        rcases Nat.lt_or_eq_of_le (Nat.lt_succ_iff.1 this) with q | q
        · have := b.1.2 q; omega
        · have := b.2.2 q; omega
      rw [decide_eq_false this, Bool.and_false]
    · rw [decide_eq_false h1, Bool.false_and]
  · have e : (j + 1) % rs.length = 0 := by rw [show j + 1 = rs.length by omega, Nat.mod_self]
    have a := h.cmp j 0 hj hp
    have b := h.cmp i j hi hj
    have c := h.cmp i 0 hi hp
    simp only [e]
    rw [if_neg (fun q => by have := a.1.1 q; omega)]
    have h1 : ¬ 0 < cmpN rs[i].1 rs[j].1 := fun q => by
      rcases Nat.lt_or_eq_of_le (show i ≤ j by omega) with r | r
      · have := b.1.2 r; omega
      · have := b.2.2 r; omega
    have h2 : ¬ cmpN rs[i].1 rs[0].1 < 0 := fun q => by have := c.1.1 q; omega
    rw [decide_eq_false h1, decide_eq_false h2]; rfl
theorem Ring.some_btw {rs : List (N3 × List Int)} (h : Ring rs) (n : N3) (hx : cmpN exX n < 0) (hn : ∀ i (hi : i < rs.length), eqB rs[i].1 n = false) : ∃ (j : Nat) (hj : j < rs.length), btwB rs[j].1 n (rs[(j + 1) % rs.length]'(Nat.mod_lt _ (by omega))).1 = true := by
  have hp := h.pos
  -- the last one that is before n
  have key : ∀ m, m < rs.length → ∃ j, j ≤ m ∧ ∃ hj : j < rs.length, cmpN rs[j].1 n < 0 ∧ (j = m ∨ ∃ hj' : j + 1 < rs.length, 0 < cmpN rs[j + 1].1 n) := by
    intro m
    induction m with
    | zero => intro hm; exact ⟨0, Nat.le_refl _, hm, by rw [h.fst]; exact hx, Or.inl rfl⟩
    | succ m ih =>
      intro hm
      obtain ⟨j, hjm, hj, h1, h2⟩ := ih (by omega)
      rcases h2 with rfl | h2
      · have hne := cmpN_ne (hn (j + 1) hm)
        rcases cmpN_sign rs[j + 1].1 n with q | q | q
        · exact ⟨j + 1, Nat.le_refl _, hm, by omega, Or.inl rfl⟩
        · exact absurd q hne
        · exact ⟨j, by omega, hj, h1, Or.inr ⟨hm, by omega⟩⟩
      · exact ⟨j, by omega, hj, h1, Or.inr h2⟩
  obtain ⟨j, hjm, hj, h1, h2⟩ := key (rs.length - 1) (by omega)
  refine ⟨j, hj, ?_⟩
  have a1 := cmpN_anti rs[j].1 n
  unfold btwB gapB
  rw [decide_eq_true (show 0 < cmpN n rs[j].1 by omega)]
  rcases h2 with h2 | ⟨hl, h2⟩
  · have e : (j + 1) % rs.length = 0 := by rw [show j + 1 = rs.length by omega, Nat.mod_self]
    simp only [e]
    rw [if_neg (fun q => by have := (h.cmp j 0 hj hp).1.1 q; omega)]
    rfl
  · have e : (j + 1) % rs.length = j + 1 := Nat.mod_eq_of_lt hl
    have a2 := cmpN_anti rs[j + 1].1 n
    simp only [e]
    rw [if_pos ((h.cmp j (j + 1) hj hl).1.2 (by omega)), decide_eq_true (show cmpN n rs[j + 1].1 < 0 by omega)]
    rfl
theorem Ring.cov_none {rs : List (N3 × List Int)} (h : Ring rs) (i : Nat) (hi : i < rs.length) (n : N3) (hn : lowN n = lowN rs[i].1) : (ringK rs).find? (covB · n) = none := by
  rw [List.find?_eq_none]
  intro k hk
  obtain ⟨j, hj, rfl⟩ := List.getElem_of_mem hk
  rw [ringK_len] at hj
  rw [h.cov j hj, h.none_btw i j hi hj n hn]
  simp
theorem Ring.cov_some {rs : List (N3 × List Int)} (h : Ring rs) (n : N3) (hx : cmpN exX n < 0) (hn : ∀ i (hi : i < rs.length), eqB rs[i].1 n = false) : ∃ k, (ringK rs).find? (covB · n) = some k := by
  obtain ⟨j, hj, hb⟩ := h.some_btw n hx hn
  cases hf : (ringK rs).find? (covB · n) with
  | some k => exact ⟨k, rfl⟩
  | none =>
    rw [List.find?_eq_none] at hf
    have := hf ((ringK rs)[j]'(by rw [ringK_len]; exact hj)) (List.getElem_mem _)
    rw [h.cov j hj, hb] at this
    simp at this
theorem Ring.name_there {rs : List (N3 × List Int)} (h : Ring rs) (i : Nat) (hi : i < rs.length) : nameR (ringK rs) rs[i].1 = 0 := by
  unfold nameR; rw [h.cov_none i hi _ rfl]
theorem Ring.match_there {rs : List (N3 × List Int)} (h : Ring rs) (i : Nat) (hi : i < rs.length) : (ringK rs).find? (mtcB · rs[i].1) = some ((ringK rs)[i]'(by rw [ringK_len]; exact hi)) := by
  rw [List.find?_eq_some_iff_getElem]
  refine ⟨?_, i, by rw [ringK_len]; exact hi, rfl, fun j hj => ?_⟩
  · rw [ringK_at rs i hi]
    unfold mtcB
    exact eqB_cmp.2 (cmpN_refl _)
  · rw [ringK_at rs j (by omega)]
    have := (h.cmp j i (by omega) hi).2
    cases hq : mtcB ⟨(rs[j]'(by omega)).1, (rs[(j + 1) % rs.length]'(Nat.mod_lt _ (by omega))).1, (rs[j]'(by omega)).2⟩ rs[i].1 with
    | false => rfl
    | true => exact absurd (this.1 (eqB_cmp.1 hq)) (by omega)
theorem Ring.type_there {rs : List (N3 × List Int)} (h : Ring rs) (i : Nat) (hi : i < rs.length) (kind : Int) (hk : hasB rs[i].2 kind = true ∨ kind ≠ 43) : typeR (ringK rs) rs[i].1 kind = if hasB rs[i].2 kind = true ∨ hasB rs[i].2 5 = true then 0 else 1 := by
  have hd := (h.cut rs[i] (List.getElem_mem _)).1
  unfold typeR
  rw [h.match_there i hi, ringK_at rs i hi]
  simp only
  unfold lackB
  cases h1 : hasB rs[i].2 kind with
  | true => simp
  | false =>
    have h43 : kind ≠ 43 := by rcases hk with q | q; rw [h1] at q; simp at q; exact q
    cases h2 : hasB rs[i].2 5 with
    | true => simp
    | false => simp [h43, hd]
theorem sib_enc (l : List UInt8) (o : N3) (ho : o = exX ∨ ∃ m, o = m :: exX) (hne : eqB o (l :: exX) = false) : comN (l :: exX) o = exX := by
  have hs : shEnd (lowN (l :: exX)) (lowN o) = 1 := by
    rcases ho with rfl | ⟨m, rfl⟩
    · show cpl ((l.map lowB :: lowN exX).reverse) _ = 1
      rw [List.reverse_cons]
      rfl
    · have hx : l.map lowB ≠ m.map lowB := fun e => by
        have : eqB (m :: exX) (l :: exX) = true := eqB_iff.2 (show m.map lowB :: lowN exX = l.map lowB :: lowN exX by rw [e])
        rw [hne] at this; simp at this
      show cpl ((l.map lowB :: lowN exX).reverse) ((m.map lowB :: lowN exX).reverse) = 1
      rw [List.reverse_cons, List.reverse_cons]
      show (if _ then cpl [l.map lowB] [m.map lowB] + 1 else 0) = 1
      rw [if_pos rfl]
      show (if l.map lowB = m.map lowB then _ else 0) + 1 = 1
      rw [if_neg hx]
  unfold comN
  rw [hs]
  rfl
theorem sib_und (l : List UInt8) (o : N3) (ho : o = exX ∨ ∃ m, o = m :: exX) (hne : eqB o (l :: exX) = false) : undB o (l :: exX) = false := by
  cases hu : undB o (l :: exX) with
  | false => rfl
  | true =>
    rw [undB_iff] at hu
    have h1 := hu.length_le
    rcases ho with rfl | ⟨m, rfl⟩
    · simp [lowN, exX] at h1
    · have h2 := hu.eq_of_length (by simp [lowN])
      have : eqB (m :: exX) (l :: exX) = true := eqB_iff.2 h2.symm
      rw [hne] at this; simp at this
theorem exX_lt (l : List UInt8) : cmpN exX (l :: exX) < 0 := by
  show cmpR ((lowN exX).reverse) ((l.map lowB :: lowN exX).reverse) < 0
  rw [List.reverse_cons]
  show cmpR [[120]] [[120], l.map lowB] < 0
  simp [cmpR]
def wildB (rs : List (N3 × List Int)) : Bool := rs.any fun r => eqB r.1 ([42] :: exX)
theorem Ring.name_not {rs : List (N3 × List Int)} (h : Ring rs) (l : List UInt8) (hn : ∀ r ∈ rs, eqB r.1 (l :: exX) = false) : nameR (ringK rs) (l :: exX) = if wildB rs = true then 0 else 1 := by
  have hn' : ∀ i (hi : i < rs.length), eqB rs[i].1 (l :: exX) = false := fun i hi => hn _ (List.getElem_mem _)
  obtain ⟨k, hk⟩ := h.cov_some (l :: exX) (exX_lt l) hn'
  obtain ⟨i, hi, rfl⟩ := ringK_mem (List.mem_of_find?_eq_some hk)
  have m1 : rs[i] ∈ rs := List.getElem_mem _
  have m2 : (rs[(i + 1) % rs.length]'(Nat.mod_lt _ (by omega))) ∈ rs := List.getElem_mem _
  have he : encN ⟨rs[i].1, (rs[(i + 1) % rs.length]'(Nat.mod_lt _ (by omega))).1, rs[i].2⟩ (l :: exX) = exX := by
    unfold encN
    simp only
    rw [sib_enc l _ (h.und _ m1) (hn _ m1), sib_enc l _ (h.und _ m2) (hn _ m2)]
    split <;> rfl
  unfold nameR
  rw [hk]
  simp only
  rw [he, sib_und l _ (h.und _ m2) (hn _ m2), if_neg (by simp), if_pos (by decide)]
  cases hw : wildB rs with
  | true =>
    obtain ⟨r, hr, hq⟩ := List.any_eq_true.1 hw
    obtain ⟨j, hj, rfl⟩ := List.getElem_of_mem hr
    rw [h.cov_none j hj (starN exX) (eqB_iff.1 hq).symm]
    rfl
  | false =>
    obtain ⟨k', hk'⟩ := h.cov_some (starN exX) (exX_lt _) (fun j hj => by
      cases hq : eqB rs[j].1 (starN exX) with
      | false => rfl
      | true =>
        have : wildB rs = true := List.any_eq_true.2 ⟨rs[j], List.getElem_mem _, hq⟩
        rw [hw] at this; simp at this)
    rw [hk']
    rfl
end Go.Proofs.YtnchoogjjnjikaaGreatDoor
/- A name put in its place. -/
namespace Go.Proofs.YtnchoogjjnjikaaGreatDoor
set_option linter.unusedVariables false
set_option linter.unusedSimpArgs false
open Go.RowKit
attribute [local go_sem ↓] storeAt_lk loadAt_lk
theorem Ring.pair {rs : List (N3 × List Int)} (h : Ring rs) : rs.Pairwise fun a b => cmpN a.1 b.1 < 0 := by
  rw [List.pairwise_iff_getElem]
  exact fun i j hi hj hij => h.srt i j hij hj
structure OwnT (l : List Int) : Prop where
  rng : ∀ t ∈ l, 2 < t ∧ t < 300 ∧ t ≠ 6 ∧ t ≠ 39
  inc : l.Pairwise (· < ·)
theorem OwnT.cut {l : List Int} (h : OwnT l) : delB l = false ∧ hasB l 39 = false := by
  have h2 : hasB l 2 = false := by unfold hasB; exact decide_eq_false fun hm => by have := (h.rng 2 hm).1; omega
  have h39 : hasB l 39 = false := by unfold hasB; exact decide_eq_false fun hm => (h.rng 39 hm).2.2.2 rfl
  exact ⟨by unfold delB; rw [h2]; rfl, h39⟩
theorem OwnT.nil : OwnT [] := ⟨by simp, List.Pairwise.nil⟩
theorem OwnT.snoc {l : List Int} (h : OwnT l) (t : Int) (h1 : 2 < t ∧ t < 300 ∧ t ≠ 6 ∧ t ≠ 39) (h2 : l = [] ∨ ∃ z, l.getLast? = some z ∧ z < t) : OwnT (l ++ [t]) := by
  refine ⟨fun x hx => ?_, ?_⟩
  · simp only [List.mem_append, List.mem_singleton] at hx
    rcases hx with hx | rfl
    · exact h.rng x hx
    · exact h1
  · rw [List.pairwise_append]
    refine ⟨h.inc, List.pairwise_singleton _ _, fun a ha b hb => ?_⟩
    obtain rfl : b = t := by simpa using hb
    rcases h2 with rfl | ⟨z, hz, hlt⟩
    · simp at ha
    · obtain ⟨ys, rfl⟩ := List.getLast?_eq_some_iff.1 hz
      have hp := h.inc
      rw [List.pairwise_append] at hp
      simp only [List.mem_append, List.mem_singleton] at ha
      rcases ha with ha | rfl
      · have := hp.2.2 a ha z (by simp); omega
      · exact hlt
theorem inc_len : ∀ (l : List Int) (b : Int), l.Pairwise (· < ·) → (∀ t ∈ l, b < t ∧ t < 300) → l.length ≤ (299 - b).toNat
  | [], _, _, _ => Nat.zero_le _
  | t :: l, b, hp, hr => by
    have h1 := List.pairwise_cons.1 hp
    have ih := inc_len l t h1.2 (fun x hx => ⟨h1.1 x hx, (hr x (by simp [hx])).2⟩)
    have := hr t (by simp)
    rw [List.length_cons]
    omega
theorem OwnT.len {l : List Int} (h : OwnT l) : l.length ≤ 300 := by
  have := inc_len l 2 h.inc (fun t ht => ⟨(h.rng t ht).1, (h.rng t ht).2.1⟩)
  omega
theorem Ring.first : Ring [(exX, [2, 6, 47])] := by
  refine ⟨by simp, fun i j hi hj => ?_, rfl, fun r hr => ?_, fun r hr => ?_⟩
  · simp at hj; omega
  · obtain rfl : r = (exX, [2, 6, 47]) := by simpa using hr
    exact Or.inl rfl
  · obtain rfl : r = (exX, [2, 6, 47]) := by simpa using hr
    exact ⟨by decide, by decide⟩
def insR (rs : List (N3 × List Int)) (m : Nat) (n : N3) (t : List Int) : List (N3 × List Int) := rs.take m ++ (n, t) :: rs.drop m
theorem Ring.ins {rs : List (N3 × List Int)} (h : Ring rs) (l : List UInt8) (t : List Int) (ht : delB t = false ∧ hasB t 39 = false) (m : Nat) (hm : m ≤ rs.length) (h1 : ∀ j (hj : j < m), cmpN (rs[j]'(by omega)).1 (l :: exX) < 0) (h2 : ∀ hj : m < rs.length, 0 < cmpN rs[m].1 (l :: exX)) : Ring (insR rs m (l :: exX) t) := by
  have hp := h.pos
  have hm0 : 0 < m := by
    rcases Nat.eq_zero_or_pos m with rfl | q
    · have := h2 hp
      rw [h.fst] at this
      have := exX_lt l
      omega
    · exact q
  have P := h.pair
  have P' := P
  rw [← List.take_append_drop m rs, List.pairwise_append] at P'
  obtain ⟨pa, pb, pc⟩ := P'
  have hlow : ∀ a ∈ rs.take m, cmpN a.1 (l :: exX) < 0 := fun a ha => by
    obtain ⟨j, hj, rfl⟩ := List.getElem_of_mem ha
    have hj' : j < m := by simp at hj; omega
    have := h1 j hj'
    rwa [List.getElem_take]
  have hhigh : ∀ b ∈ rs.drop m, cmpN (l :: exX) b.1 < 0 := fun b hb => by
    obtain ⟨j, hj, rfl⟩ := List.getElem_of_mem hb
    have hj' : m + j < rs.length := by simp at hj; omega
    rw [List.getElem_drop]
    have q := h2 (by omega)
    have a1 := cmpN_anti rs[m].1 (l :: exX)
    have q' : cmpN (l :: exX) rs[m].1 < 0 := by omega
    rcases Nat.eq_zero_or_pos j with rfl | hj0
    · exact q'
    · exact cmpN_lt_tr q' (h.srt m (m + j) (by omega) hj')
  have PP : (insR rs m (l :: exX) t).Pairwise fun a b => cmpN a.1 b.1 < 0 := by
    unfold insR
    rw [List.pairwise_append, List.pairwise_cons]
    refine ⟨pa, ⟨hhigh, pb⟩, fun a ha b hb => ?_⟩
    rcases List.mem_cons.1 hb with rfl | hb
    · exact hlow a ha
    · exact pc a ha b hb
  have hmem : ∀ r ∈ insR rs m (l :: exX) t, r ∈ rs ∨ r = (l :: exX, t) := fun r hr => by
    unfold insR at hr
    rcases List.mem_append.1 hr with q | q
    · exact Or.inl (List.mem_of_mem_take q)
    · rcases List.mem_cons.1 q with q | q
      · exact Or.inr q
      · exact Or.inl (List.mem_of_mem_drop q)
  have hlen : (insR rs m (l :: exX) t).length = rs.length + 1 := by simp [insR]; omega
  refine ⟨by omega, fun i j hi hj => ?_, ?_, fun r hr => ?_, fun r hr => ?_⟩
  · exact (List.pairwise_iff_getElem.1 PP) i j (by omega) hj hi
  · have : (insR rs m (l :: exX) t)[0]'(by omega) = rs[0] := by
      simp only [insR]
      rw [List.getElem_append_left (by simp; omega), List.getElem_take]
    rw [this]; exact h.fst
  · rcases hmem r hr with q | rfl
    · exact h.und r q
    · exact Or.inr ⟨l, rfl⟩
  · rcases hmem r hr with q | rfl
    · exact h.cut r q
    · exact ht
theorem past_of {a n : N3} (h1 : ¬ cmpN a n < 0) (h2 : eqB a n = false) : 0 < cmpN a n := by
  have := cmpN_ne h2
  omega
end Go.Proofs.YtnchoogjjnjikaaGreatDoor
/- keyless, noKeys, Cut. -/
namespace Go.Proofs.YtnchoogjjnjikaaGreatDoor
set_option linter.unusedVariables false
set_option linter.unusedSimpArgs false
open Go.RowKit
attribute [local go_sem ↓] storeAt_lk loadAt_lk
def klB (l : List Int) : Bool := delB l && !hasB l 43
set_option maxRecDepth 100000 in
set_option maxHeartbeats 1000000 in
theorem kl_in (W : World) (v : Value) (l : List Int) (hl : l.length ≤ 1000000) (h : IntsAt W v l) :
    Calls Tryz.prog 70 #[v] W fun e w' => e = .returned (.bool (klB l)) ∧ w' = W := by
  have H2 := Hid.mk (del_in W v l hl h)
  have H6 := Hid.mk (has_in W v l 43 hl h)
  unfold klB
  generalize delB l = A at H2 ⊢
  generalize hasB l 43 = B at H6 ⊢
  clear h hl
  cases A with
  | false =>
    go_enter Tryz.func70, Tryz.ntmps70
    go_wp2_with fail
    refine H2.out.mono ?_
    rintro e w1 ⟨rfl, rfl⟩
    go_wp2
    go_ret
    exact ⟨rfl, rfl⟩
  | true =>
    go_enter Tryz.func70, Tryz.ntmps70
    go_wp2_with fail
    refine H2.out.mono ?_
    rintro e w1 ⟨rfl, rfl⟩
    go_wp2_with fail
    refine H6.out.mono ?_
    rintro e w1 ⟨rfl, rfl⟩
    go_wp2
    go_ret
    exact ⟨by simp, rfl⟩
def keysR (ks : List Lk) (n : List (List UInt8)) : Int := match ks.find? (mtcB · n) with
  | some k => if klB k.t then 1 else 0
  | none => 0
set_option maxRecDepth 100000 in
set_option maxHeartbeats 2000000 in
theorem noKeys_in (ks : List Lk) (n : List (List UInt8)) (hks : ChOk ks) (hn : OkN n) (v : Value) (W : World) (h : ChAt W v ks) :
    Calls Tryz.prog 43 #[v, .string (nm n)] W fun e w' => e = .returned (.int .i64 (keysR ks n)) ∧ Below W.heap.size W w' := by
  have HM : Hid (∀ n', OkN n' → ∀ w, Below W.heap.size W w → Calls Tryz.prog 66 #[v, .string (nm n')] w fun e w' => (∃ a b c f, e = .returned (.tuple #[.agg #[a, b, c], .bool f]) ∧ Found w' (ks.find? (mtcB · n')) a b c f) ∧ Below w.heap.size w w') := fun n' hn' w hb => matching_in ks n' hks hn' v w (h.blk hb)
  obtain ⟨q, cap, hv, _⟩ := id h
  have HOk : Hid (∀ p k, ks.find? p = some k → k.Ok) := fun p k hk => find_ok hks hk
  obtain ⟨RR, hRR⟩ : ∃ RR, keysR ks n = RR := ⟨_, rfl⟩
  have T0 : Hid (∀ k, ks.find? (mtcB · n) = some k → RR = if klB k.t then 1 else 0) := fun k h1 => by rw [← hRR]; unfold keysR; rw [h1]
  have T1 : Hid (ks.find? (mtcB · n) = none → RR = 0) := fun h1 => by rw [← hRR]; unfold keysR; rw [h1]
  rw [hRR]
  clear h hks hRR
  subst hv
  have F := Fm.start W
  go_enter Tryz.func43, Tryz.ntmps43
  go_wp2_with fail
  refine (HM.out n hn _ F.bel).mono ?_
  rintro e u1 ⟨⟨a1, b1, c1, f1, rfl, hf1⟩, hb⟩
  replace F := F.blk hb
  clear hb
  obtain ⟨oa, ob, oc⟩ := hf1.one
  have st := lkst1 u1 a1 b1 c1 (.string ⟨#[]⟩) (.string ⟨#[]⟩) (.slice none 0 0) oa ob oc
  go_upto_region 2 with fail
  replace F := F.new (Obj.cells #[a1, b1, c1] 98 (0, 0))
  clear st oa ob oc
  have hA := (Below.refl u1.heap.size u1).alloc (Nat.le_refl _) (Obj.cells #[a1, b1, c1] 98 (0, 0))
  generalize u1.alloc (Obj.cells #[a1, b1, c1] 98 (0, 0)) = z1 at F hA ⊢
  generalize hbb : u1.heap.size = b5 at F hA ⊢
  rw [← hbb] at hA
  cases hr : ks.find? (mtcB · n) with
  | some kk =>
    rw [hr] at hf1
    have hkk := HOk.out _ kk hr
    have er := Hid.mk (T0.out kk hr)
    clear hr HOk T0 T1
    have hl1 : LkAt z1 kk a1 b1 c1 := hf1.2.blk hA
    have ef := hf1.1
    subst ef
    clear hf1 hA hbb
    have HK := Hid.mk (kl_in z1 c1 kk.t hkk.2.2 hl1.2.2)
    have q2 : z1.cell? ⟨b5, 2, none⟩ = some c1 := (cells_at (F.get 0 rfl) rfl).1
    obtain ⟨qc, cc, hc, _⟩ := id hl1.2.2
    subst hc
    generalize klB kk.t = K at HK er
    clear hl1 hkk
    go_wp2_with fail
    refine (HK.out).mono ?_
    rintro e u2 ⟨rfl, rfl⟩
    clear q2 HK
    cases K with
    | true =>
      go_wp2
      go_ret
      exact ⟨by rw [er.out]; rfl, F.bel⟩
    | false =>
      go_wp2
      go_ret
      exact ⟨by rw [er.out]; rfl, F.bel⟩
  | none =>
    rw [hr] at hf1
    have ef := hf1.1
    have er := Hid.mk (T1.out hr)
    subst ef
    clear hf1 hA hbb hr T0 T1
    go_wp2
    go_ret
    exact ⟨by rw [er.out]; rfl, F.bel⟩
theorem way_f3 (a b c d : Value) (w : World) : (Instr.field 55 (.agg #[a, b, c, d]) 3).run Tryz.prog w = .ok d w := by kernel_rfl
set_option maxRecDepth 100000 in
set_option maxHeartbeats 2000000 in
theorem cut_in (ap n : List (List UInt8)) (hn : OkN n) (hu : undB n ap = true) (hq : eqB n ap = false) (l : List Gd) (hap : OkN ap) (hl : l.length ≤ 100000) (h0 : l ≠ []) (hok : ∀ g ∈ l, g.Ok) (hun : ∀ g ∈ l, undB g.k.o ap = true) (v : Value) (W : World) (h : StAt W v l) : Calls Tryz.prog 9 #[v, .string (nm n), .string (nm ap)] W fun e w' => e = .returned (.int .i64 (keysR (l.map (·.k)) n)) ∧ Below W.heap.size W w' := by
  have HW : Hid (∀ w, Below W.heap.size W w → Calls Tryz.prog 22 #[v, .string (nm ap)] w fun e w' => (∃ cv, e = .returned (.agg #[.func (.func 40) #[cv] #[], .func (.func 41) #[cv] #[], .func (.func 42) #[cv] #[], .func (.func 43) #[cv] #[]]) ∧ ChT w' cv (l.map (·.k))) ∧ Below w.heap.size w w') := fun w hb => wayOf_in l ap hap hl h0 hok hun v w (h.blk hb)
  have hko := chOk_of hl hok
  have HB := Hid.mk (below_in n ap hn hap hu hq)
  have g0 := way_f0
  have g1 := way_f1
  have g2 := way_f3
  obtain ⟨q, cap, hv, _⟩ := id h
  clear hl h0 hok hun h
  subst hv
  generalize l.map (·.k) = ks at *
  generalize l.length = m at HW ⊢
  have F := Fm.start W
  have HN : Hid (∀ w cv, ChT w cv ks → Calls Tryz.prog 43 #[cv, .string (nm n)] w fun e w' => e = .returned (.int .i64 (keysR ks n)) ∧ Below w.heap.size w w') := fun w cv hc => noKeys_in ks n hko hn cv w hc.at
  generalize keysR ks n = R at HN ⊢
  generalize nm n = sn at HB HN ⊢
  generalize nm ap = sa at HB HW ⊢
  go_enter Tryz.func9, Tryz.ntmps9
  go_wp2_with fail
  refine (HB.out _).mono ?_
  rintro e u1 ⟨rfl, hb⟩
  replace F := F.blk hb
  clear hb
  go_wp2_with fail
  refine (HW.out _ F.bel).mono ?_
  rintro e u2 ⟨⟨cv, rfl, hch⟩, hb⟩
  replace F := F.blk hb
  clear hb
  go_wp2_with fail
  refine (HN.out _ _ hch).mono ?_
  rintro e u3 ⟨rfl, hb⟩
  replace F := F.blk hb
  clear hb
  go_wp2
  go_ret
  exact ⟨rfl, F.bel⟩
set_option maxRecDepth 100000 in
set_option maxHeartbeats 2000000 in
theorem cut_apex (ap : List (List UInt8)) (hap : OkN ap) (v : Value) (W : World) (hv : v.oneCell' = true) : Calls Tryz.prog 9 #[v, .string (nm ap), .string (nm ap)] W fun e w' => e = .returned (.int .i64 0) ∧ Below W.heap.size W w' := by
  have HU : Hid (∀ w, Calls Tryz.prog 21 #[.string (nm ap), .string (nm ap)] w fun e w' => e = .returned (.bool true) ∧ Below w.heap.size w w') := fun w => by have := under_yes ap ap hap hap w; rwa [show undB ap ap = true by rw [undB_iff]; exact List.suffix_refl _] at this
  have HE : Hid (∀ w, Calls Tryz.prog 7 #[.string (nm ap), .string (nm ap)] w fun e w' => e = .returned (.bool true) ∧ Below w.heap.size w w') := fun w => by have := equal_yes ap ap hap hap w; rwa [show eqB ap ap = true by unfold eqB; simp] at this
  generalize nm ap = sa at HU HE ⊢
  have HB : Hid (∀ w, Calls Tryz.prog 23 #[.string sa, .string sa] w fun e w' => e = .returned (.bool false) ∧ Below w.heap.size w w') := fun W => by
    have F := Fm.start W
    go_enter Tryz.func23, Tryz.ntmps23
    go_wp2_with fail
    refine (HU.out _).mono ?_
    rintro e u1 ⟨rfl, hb⟩
    replace F := F.blk hb
    clear hb
    go_wp2_with fail
    refine (HE.out _).mono ?_
    rintro e u2 ⟨rfl, hb⟩
    replace F := F.blk hb
    clear hb
    go_wp2
    go_ret
    exact ⟨rfl, F.bel⟩
  have F := Fm.start W
  go_enter Tryz.func9, Tryz.ntmps9
  go_wp2_with fail
  refine (HB.out _).mono ?_
  rintro e u1 ⟨rfl, hb⟩
  replace F := F.blk hb
  clear hb
  go_wp2
  go_ret
  exact ⟨rfl, F.bel⟩
end Go.Proofs.YtnchoogjjnjikaaGreatDoor
/- The NSEC of a place. -/
namespace Go.Proofs.YtnchoogjjnjikaaGreatDoor
set_option linter.unusedVariables false
set_option linter.unusedSimpArgs false
open Go.RowKit
attribute [local go_sem ↓] storeAt_lk loadAt_lk
theorem encW_lenM : ∀ (ws : List Win) (last M : Int), OkW last ws → (∀ q ∈ ws, (q.1 : Int) ≤ M) → last ≤ M → ((encW ws).length : Int) ≤ 34 * (M - last)
  | [], last, M, _, _, h' => by simp [encW]; omega
  | p :: r, last, M, ⟨h1, h2, h3, h4, h5⟩, hq, _ => by
    have hp := hq p (by simp)
    have := encW_lenM r p.1 M h5 (fun q hq' => hq q (by simp [hq'])) hp
    simp [encW]
    omega
theorem win_le {ws : List Win} {last : Int} (h : OkW last ws) (M : Nat) (hx : ∀ x ∈ tysW ws, x < 256 * (M + 1)) : ∀ q ∈ ws, q.1 ≤ M := by
  induction ws generalizing last with
  | nil => simp
  | cons p r ih =>
    obtain ⟨h1, h2, h3, h4, h5⟩ := h
    intro q hq
    rcases List.mem_cons.1 hq with rfl | hq
    · obtain ⟨x, r', hb⟩ := bits_head (w := q.1) h4 h3
      have hm : x ∈ bitsL q.1 q.2 256 := by rw [hb]; simp
      obtain ⟨i, hi, _, rfl⟩ := mem_bits.1 hm
      have := hx _ (by rw [tysW]; exact List.mem_append_left _ hm)
      omega
    · exact ih h5 (fun x hx' => hx x (by rw [tysW]; exact List.mem_append_right _ hx')) q hq
theorem encT_len {l : List Nat} (h : Rise (-1) l) (hx : ∀ x ∈ l, x < 512) : (encT l).length ≤ 68 := by
  obtain ⟨a1, a2⟩ := addAll_ok l [] (-1) trivial (by simp [tysW]) h
  have hw := win_le a1 1 (fun x hx' => by rw [a2] at hx'; simp [tysW] at hx'; have := hx x hx'; omega)
  have := encW_lenM _ (-1) 1 a1 (fun q hq => by have := hw q hq; omega) (by omega)
  unfold encT
  omega
def TyOk (l : List Nat) : Prop := Rise (-1) l ∧ ∀ x ∈ l, x < 512
def ints (l : List Nat) : List Int := l.map fun n => ((n : Nat) : Int)
def gdOf (o x : N3) (l : List Nat) : Gd := ⟨⟨o, x, ints l⟩, cat [nm x, ⟨(encT l).toArray⟩]⟩
theorem nsec_split (x : N3) (hx : OkN x) (l : List Nat) (hl : TyOk l) : splitR 47 (cat [nm x, ⟨(encT l).toArray⟩]) = some [nm x, ⟨(encT l).toArray⟩] := by
  refine (split_iff 47 _ _).2 ⟨by decide, ?_, rfl, ⟨⟨x, hx, rfl⟩, (show (typesR ⟨(encT l).toArray⟩).isSome = true by rw [typesR_enc hl.1]; rfl), trivial⟩⟩
  have h1 := encT_len hl.1 hl.2
  have h2 := nm_size x
  have h3 := hx.len
  have : (cat [nm x, ⟨(encT l).toArray⟩]).size = (nm x).size + (encT l).length := by
    rw [← size_list]
    simp [cat, size_list]
  omega
theorem rise_count : ∀ (l : List Nat) (last : Int), Rise last l → (∀ x ∈ l, x < 512) → -1 ≤ last → last ≤ 511 → (l.length : Int) ≤ 511 - last
  | [], last, _, _, _, _ => by simp; omega
  | k :: r, last, ⟨h1, h2, h3⟩, hx, _, _ => by
    have hk := hx k (by simp)
    have := rise_count r k h3 (fun x hx' => hx x (by simp [hx'])) (by omega) (by omega)
    simp only [List.length_cons]
    omega
theorem gd_ok (o x : N3) (ho : OkN o) (hx : OkN x) (l : List Nat) (hl : TyOk l) : (gdOf o x l).Ok :=
  ⟨⟨ho, hx, by
    have := rise_count l (-1) hl.1 hl.2 (by omega) (by omega)
    show (ints l).length ≤ 1000000
    unfold ints; rw [List.length_map]; omega⟩, fun w => nsec_good _ _ _ l (nsec_split x hx l hl) (typesR_enc hl.1) w, fun w => right_good _ (nsec_split x hx l hl) w⟩
theorem nsec_join (x : N3) (hx : OkN x) (l : List Nat) (hl : TyOk l) : strOf (joinR 47 (some [nm x, ⟨(encT l).toArray⟩])) = cat [nm x, ⟨(encT l).toArray⟩] ∧ errOf (joinR 47 (some [nm x, ⟨(encT l).toArray⟩])) = 0 := by
  have : joinR 47 (some [nm x, ⟨(encT l).toArray⟩]) = some (cat [nm x, ⟨(encT l).toArray⟩]) := by
    unfold joinR
    simp only
    rw [if_pos (nsec_split x hx l hl)]
  rw [this]
  exact ⟨rfl, rfl⟩
theorem ty_of_own {l : List Int} (h : OwnT l) : ∃ t : List Nat, TyOk t ∧ l = ints t := by
  refine ⟨l.map Int.toNat, ⟨rise_of _ _ ?_ (fun x hx => ?_), fun x hx => ?_⟩, ?_⟩
  · rw [List.pairwise_map]
    refine h.inc.imp_of_mem fun {a b} ha hb hab => ?_
    have := (h.rng a ha).1
    omega
  · obtain ⟨t, ht, rfl⟩ := List.mem_map.1 hx
    have := h.rng t ht
    omega
  · obtain ⟨t, ht, rfl⟩ := List.mem_map.1 hx
    have := h.rng t ht
    omega
  · unfold ints
    rw [List.map_map]
    have : l.map id = l.map ((fun n => ((n : Nat) : Int)) ∘ Int.toNat) := List.map_congr_left fun t ht => by
      have := h.rng t ht
      simp only [id, Function.comp]
      omega
    rw [← this, List.map_id]
theorem ty_first : TyOk [2, 6, 47] ∧ ([2, 6, 47] : List Int) = ints [2, 6, 47] := ⟨⟨⟨by decide, by decide, by decide, by decide, by decide, by decide, trivial⟩, by decide⟩, rfl⟩
theorem Ring.keys_there {rs : List (N3 × List Int)} (h : Ring rs) (i : Nat) (hi : i < rs.length) : keysR (ringK rs) rs[i].1 = 0 := by
  have hd := (h.cut rs[i] (List.getElem_mem _)).1
  unfold keysR
  rw [h.match_there i hi, ringK_at rs i hi]
  simp only
  unfold klB
  rw [hd]
  rfl
end Go.Proofs.YtnchoogjjnjikaaGreatDoor