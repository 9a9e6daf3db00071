/- Layer 13: rules put into a row of their own; a row that is written over. -/
import Derived.Laws.AppendOwn
import Derived.Laws.OwnMore
import Derived.Test.YtpognbkdafnfjaaDoorAcDf
namespace Go.Proofs.YtpognbkdafnfjaaDoor
set_option linter.unusedVariables false
set_option linter.unusedSimpArgs false
open Go.RowKit

def bAppR (a : Array Value) : Sem Value := Builtin.append_ #[22, 22] 22 a
theorem app_r (a : Array Value) : Builtin.append_ #[22, 22] 22 a = bAppR a := rfl
theorem infoRl : (Tryd.prog.info? 36).map (fun i => (i.zero, i.size, i.bytes)) = some (some (.agg #[.bool false, .int .u64 0, .int .u64 0, .int .i64 0, .int .i64 0]), 5, 40) := by kernel_rfl
theorem rsC_one (rs : List Rl) : ∀ u ∈ rsC rs, u.oneCell' = true := by
  intro u hu
  unfold rsC at hu
  rw [List.mem_flatMap] at hu
  obtain ⟨r, _, hr⟩ := hu
  simp [rlC] at hr
  rcases hr with rfl | rfl | rfl | rfl | rfl <;> rfl
theorem rls_back {w : World} {b off : Nat} {rs : List Rl} (h : RlsAt w (some ⟨b, off, none⟩) rs) (k : Nat) (x : Value) (hx : (rsC rs)[k]? = some x) : w.cell? ⟨b, off + k, none⟩ = some x := by
  have hl : k < (rsC rs).length := (List.getElem?_eq_some_iff.1 hx).1
  rw [rsC_len] at hl
  have hj : k / 5 < rs.length := by omega
  have hi : k % 5 < 5 := Nat.mod_lt _ (by decide)
  have hk : k / 5 * 5 + k % 5 = k := by omega
  have e := rsC_at rs (k / 5) hj (k % 5) hi
  rw [hk, hx] at e
  obtain ⟨c0, c1, c2, c3, c4⟩ := h.at (k / 5) hj
  rw [← hk, ← Nat.add_assoc]
  generalize k % 5 = i at hi e
  match i, hi, e with
  | 0, _, e => cases e; exact c0
  | 1, _, e => cases e; exact c1
  | 2, _, e => cases e; exact c2
  | 3, _, e => cases e; exact c3
  | 4, _, e => cases e; exact c4
/-- a row of its own that holds rules. -/
def OwnR (B : Nat) (w : World) (q : Option Addr) (rs : List Rl) (cap : Nat) : Prop := w.ownsRow B 36 5 (.slice q rs.length cap) rs.length (rsC rs)
theorem OwnR.nil (B : Nat) (w : World) : OwnR B w none [] 0 := ⟨rfl, .inl ⟨rfl, rfl⟩⟩
theorem own_shape {B : Nat} {w : World} {v : Value} {n : Nat} {xs : List Value} (h : w.ownsRow B 36 5 v n xs) : ∃ q cap, v = .slice q n cap := by
  rcases h.2 with ⟨rfl, rfl⟩ | ⟨g, cap, cur, rfl, _⟩
  · exact ⟨_, _, rfl⟩
  · exact ⟨_, _, rfl⟩
theorem OwnR.at {B : Nat} {w : World} {q : Option Addr} {rs : List Rl} {cap : Nat} (h : OwnR B w q rs cap) : RlsAt w q rs ∧ rs.length ≤ cap ∧ cap ≤ maxLen ∧ ∀ a, q = some a → a.off = 0 ∧ a.spot = none ∧ B ≤ a.block ∧ ∃ cur, w.heap[a.block]? = some (.cells cur 36 (0, 0)) ∧ rs.length * 5 ≤ cur.size := by
  rcases h.2 with ⟨h1, h2⟩ | ⟨g, cap', cur, h1, hb, hg, hn, hc, hs, ht⟩
  · obtain ⟨rfl, _, rfl⟩ : q = none ∧ rs.length = 0 ∧ cap = 0 := by simpa using h1
    exact ⟨fun j hj => by omega, by omega, by unfold maxLen; omega, fun a ha => by cases ha⟩
  · cases h1
    refine ⟨rls_cells (Array.getElem?_eq_some_iff.1 hg).1 (fun k x hx => ?_), hn, hc, fun a ha => ?_⟩
    · rw [Nat.zero_add]
      refine cell_of_heap hg ?_
      have hlt : k < rs.length * 5 := by rw [← rsC_len]; exact (List.getElem?_eq_some_iff.1 hx).1
      rw [← ht, List.getElem?_take, if_pos hlt] at hx
      simpa using hx
    · cases ha
      exact ⟨rfl, rfl, hb, cur, hg, by rw [hs]; exact Nat.mul_le_mul_right _ hn⟩
theorem rsC_app (a b : List Rl) : rsC (a ++ b) = rsC a ++ rsC b := by unfold rsC; rw [List.flatMap_append]
/-- rules behind rules. -/
theorem rapp {W : World} {B : Nat} {q p : Option Addr} {rs ns : List Rl} {cap c : Nat} (ho : OwnR B W q rs cap) (hat : RlsAt W p ns) (hp : p = none → ns.length = 0 ∧ c = 0) (hB : B ≤ W.heap.size) (hl : (rs.length + ns.length) * 40 ≤ 140737488355328) :
    ∃ q' cap' w', (bAppR #[.slice q rs.length cap, .slice p ns.length c]).run Tryd.prog W = .ok (.slice q' (rs.length + ns.length) cap') w' ∧ OwnR B w' q' (rs ++ ns) cap' ∧ Below B W w' := by
  obtain ⟨i0, hi, hz0, hz1, hz2⟩ := info_parts infoRl
  cases p with
  | none =>
    obtain ⟨h0, rfl⟩ := hp rfl
    obtain rfl : ns = [] := List.eq_nil_of_length_eq_zero h0
    refine ⟨q, cap, W, ?_, ?_, Below.refl _ _⟩
    · exact run_append_owned_none (P := Tryd.prog) W B 22 22 36 i0 5 Tryd.underlying22 hi _ _ _ ho
    · rw [List.append_nil]
      exact ho
  | some a =>
    have hnews : ∀ (j : Nat) u, (rsC ns)[j]? = some u → W.cell? (a.add j) = some u := fun j u hu => by
      have hl : j < (rsC ns).length := (List.getElem?_eq_some_iff.1 hu).1
      rw [rsC_len] at hl
      obtain ⟨g, off, e, _⟩ := hat 0 (by omega)
      cases e
      have h := rls_back hat j u hu
      unfold Addr.add
      split
      · rename_i h0
        subst h0
        exact h
      · exact h
    obtain ⟨v', w1, hrun, hown', hg, _⟩ := run_append_own (P := Tryd.prog) W B 22 22 36 i0 _ 5 40 Tryd.underlying22 hi hz0 hz1 hz2 rfl (by decide) _ _ _ ho a ns.length c (rsC ns) (rsC_len ns) hnews (rsC_one ns) (by unfold maxLen; omega) hl hB
    obtain ⟨q', cap', rfl⟩ := own_shape hown'
    refine ⟨q', cap', w1, hrun, ?_, (Below.refl _ _).grown hg hB (fun b hb' => ?_)⟩
    · unfold OwnR
      rw [rsC_app, List.length_append]
      exact hown'
    · rcases ho.2 with ⟨h1, _⟩ | ⟨g, cap', cur, h1, hb, _⟩
      · rw [h1] at hb'
        simp [Value.ownBlock] at hb'
      · rw [h1] at hb'
        obtain rfl : g = b := by simpa [Value.ownBlock] using hb'
        exact hb
theorem rapp0 {W : World} {p : Option Addr} {ns : List Rl} {c : Nat} (hat : RlsAt W p ns) (hp : p = none → ns.length = 0 ∧ c = 0) (hl : ns.length * 40 ≤ 140737488355328) :
    ∃ q' cap' w', (bAppR #[.slice none 0 0, .slice p ns.length c]).run Tryd.prog W = .ok (.slice q' ns.length cap') w' ∧ OwnR W.heap.size w' q' ns cap' ∧ Below W.heap.size W w' := by
  have := rapp (OwnR.nil W.heap.size W) hat hp (Nat.le_refl _) (by simpa using hl)
  simpa using this
/-- all but a row stays. -/
structure Off (g : Nat) (V w : World) : Prop where
  bel : Below g V w
  size : w.heap.size = V.heap.size
  other : ∀ b, b ≠ g → w.heap[b]? = V.heap[b]?
theorem Off.refl (g : Nat) (V : World) : Off g V V := ⟨Below.refl _ _, rfl, fun _ _ => rfl⟩
theorem Off.set {g : Nat} {V w : World} (h : Off g V w) (i : Nat) (x : Value) : Off g V (w.setCell ⟨g, i, none⟩ x) where
  bel := h.bel.setCell (p := ⟨g, i, none⟩) (Nat.le_refl _) x
  size := by simp [h.size]
  other := fun b hb => by
    simp only [World.setCell, Array.getElem?_modify]
    rw [if_neg (fun e => hb e.symm)]
    exact h.other b hb
theorem Off.cell {g : Nat} {V w : World} (h : Off g V w) {b i : Nat} (hb : b ≠ g) : w.cell? ⟨b, i, none⟩ = V.cell? ⟨b, i, none⟩ := by
  unfold World.cell?
  simp only [h.other b hb]
theorem Off.frozen {g : Nat} {V w : World} (h : Off g V w) {b i : Nat} (hb : b ≠ g) : w.frozen? ⟨b, i, none⟩ = V.frozen? ⟨b, i, none⟩ := by
  unfold World.frozen?
  simp only [h.other b hb]
theorem Tr.off {N g : Nat} {V w : World} {X : Nat} {D : Nd} {A : Bool → List Bool → Int} (T : Tr N V X D A) (h : Off g V w) (hg : g < N) : Tr N w X D A where
  root := T.root
  up := T.up
  old := fun v q p hp => by rw [h.size]; exact T.old v q p hp
  inj := T.inj
  cel := fun v q p hp => ⟨fun b => (h.cell (by have := (T.old v q p hp).1; omega)).trans ((T.cel v q p hp).1 b), (h.cell (by have := (T.old v q p hp).1; omega)).trans (T.cel v q p hp).2⟩
  fro := fun v q p i hp => (h.frozen (by have := (T.old v q p hp).1; omega)).trans (T.fro v q p i hp)
  zer := T.zer
end Go.Proofs.YtpognbkdafnfjaaDoor
