/- Texts of this proof, joined: LeJ. -/
import Derived.Test.YtdlcldjlfhmlgaaGreatDoorJ32
set_option linter.unusedVariables false
set_option linter.unusedSimpArgs false
/- The document's Sets (guidepostref08): what one record more does, as lists. -/
namespace Go.Proofs.YtdlcldjlfhmlgaaGreatDoor
open Go.RowKit
def pz (ss : List St) : List Sg := ss.map fun s => (s, [])
theorem pz_fst : ∀ ss : List St, (pz ss).map Prod.fst = ss
 | [] => rfl
 | s :: ss => by
  have := pz_fst ss
  unfold pz at this ⊢
  rw [List.map_cons, List.map_cons, this]
theorem pz_len (ss : List St) : (pz ss).length = ss.length := by simp [pz]
theorem pz_at (ss : List St) (k : Nat) (h : k < ss.length) (h' : k < (pz ss).length) : (pz ss)[k] = (ss[k], []) := by simp [pz]
theorem pz_snoc (ss : List St) (s : St) : pz (ss ++ [s]) = pz ss ++ [(s, [])] := by simp [pz]
theorem pz_set (ss : List St) (k : Nat) (s : St) : pz (ss.set k s) = (pz ss).set k (s, []) := by simp [pz, List.map_set]
theorem keyP_S (s : St) (g : List ByteArray) (r : Rc) : keyP (lb r.nm) r.ty r.cl (s, g) = keyS s r := rfl
theorem fnd_none {ss : List St} {r : Rc} (h : fndP (pz ss) (lb r.nm) r.ty r.cl = none) : addR ss r = ss ++ [newS r] := by
 refine addR_new ss r (fun s hs => ?_)
 unfold fndP at h
 rw [List.findIdx?_eq_none_iff] at h
 have := h (s, []) (by unfold pz; exact List.mem_map.2 ⟨s, hs, rfl⟩)
 rwa [keyP_S] at this
theorem fnd_some {ss : List St} {r : Rc} {k : Nat} (h : fndP (pz ss) (lb r.nm) r.ty r.cl = some k) : ∃ hk : k < ss.length, keyS ss[k] r = true ∧ (Apart ss → addR ss r = ss.set k (addD ss[k] r)) := by
 unfold fndP at h
 rw [List.findIdx?_eq_some_iff_getElem] at h
 obtain ⟨hk, h1, _⟩ := h
 have hk' : k < ss.length := by rwa [pz_len] at hk
 have h2 : keyS ss[k] r = true := by rw [pz_at ss k hk' hk, keyP_S] at h1; exact h1
 exact ⟨hk', h2, fun ha => addR_old ss r k hk' ha h2⟩
open Classical in
theorem addD_twice {s : St} {r : Rc} (h : hasD r.ty s.ds r.dat = true) : addD s r = { s with tl := min s.tl (ttl r) } := by
 unfold hasD at h
 unfold addD
 rw [if_pos (of_decide_eq_true h)]
open Classical in
theorem addD_new {s : St} {r : Rc} (h : hasD r.ty s.ds r.dat = false) : addD s r = { s with tl := min s.tl (ttl r), ds := s.ds ++ [r.dat] } := by
 unfold hasD at h
 unfold addD
 rw [if_neg (of_decide_eq_false h)]
theorem newS_eq (r : Rc) : newS r = ⟨lb r.nm, r.ty, r.cl, ttl r, [r.dat]⟩ := by
 unfold newS
 have := (@ttl_range r).2
 rw [show min 2147483647 (ttl r) = ttl r by omega]
theorem setsR_few (l : List Rc) : (setsR l).length ≤ l.length ∧ (∀ s ∈ setsR l, s.ds.length ≤ l.length) ∧ Apart (setsR l) := by
 have key : ∀ (n : Nat), n ≤ l.length → (∀ s ∈ setsR (l.take n), s.ds.length ≤ n) ∧ Apart (setsR (l.take n)) := by
  intro n
  induction n with
  | zero => intro _; rw [List.take_zero]; exact ⟨fun s hs => by simp [setsR] at hs, List.Pairwise.nil⟩
  | succ n ih =>
   intro hn
   obtain ⟨i1, i2⟩ := ih (by omega)
   have hlt : n < l.length := by omega
   rw [List.take_succ_eq_append_getElem hlt, setsR_snoc]
   unfold stepR
   split
   ·refine ⟨fun s hs => ?_, addR_apart _ _ i2⟩
    rcases addR_mem hs with h | rfl | ⟨s', h1, h2, rfl⟩
    ·have := i1 s h; omega
    ·simp [newS]
    ·have := i1 s' h1
     have := addD_len s' l[n]
     omega
   ·exact ⟨fun s hs => by have := i1 s hs; omega, i2⟩
 have h := key l.length (Nat.le_refl _)
 rw [List.take_length] at h
 exact ⟨setsR_len l, h⟩
theorem SG.size {s : St} (h : SG s) : ∀ d ∈ s.ds, d.size ≤ 65535 := fun d hd => dRt_size (h.dat d hd)
theorem mks_ne {k : Int} (h : mks k = true) : k ≠ 46 ∧ k ≠ 41 := by
 unfold mks at h
 rw [Bool.and_eq_true] at h
 exact ⟨by simpa using h.1, by simpa using h.2⟩
theorem SG.t46 {s : St} (h : SG s) : s.ty ≠ 46 ∧ s.ty ≠ 41 := mks_ne h.mks
end Go.Proofs.YtdlcldjlfhmlgaaGreatDoor
