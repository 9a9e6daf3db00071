/- Layer 11: TableKeeps: what is there behind puts, as a list. -/
import Derived.Test.YtcebljcofkohiaaTbArg
namespace Go.Proofs.Ytcebljcofkohiaa
set_option linter.unusedVariables false

theorem take_filter {α : Type} (p : α → Bool) : ∀ (X : List α) (m : Nat), (X.filter fun x => !p x).length ≤ 1 → ((X.take (m + 1)).filter p).take m = (X.filter p).take m
  | [], m, _ => by simp
  | x :: X, 0, _ => by simp
  | x :: X, m + 1, h => by
    cases hp : p x with
    | true =>
      have ih := take_filter p X m (by simpa [hp] using h)
      rw [List.take_succ_cons, List.filter_cons_of_pos hp, List.filter_cons_of_pos hp, List.take_succ_cons, List.take_succ_cons, ih]
    | false =>
      have h0 : X.filter (fun x => !p x) = [] := by
        rw [List.filter_cons_of_pos (by simp [hp])] at h
        exact List.length_eq_zero_iff.1 (by simp only [List.length_cons] at h; omega)
      have hall : ∀ y ∈ X, p y = true := fun y hy => by
        have := List.filter_eq_nil_iff.1 h0 y hy
        simpa using this
      rw [List.take_succ_cons, List.filter_cons_of_neg (by simp [hp]), List.filter_cons_of_neg (by simp [hp]), List.filter_eq_self.2 hall, List.filter_eq_self.2 (fun y hy => hall y (List.mem_of_mem_take hy)), List.take_take]
      simp

/-- the keys at ls, each at its last place ahead of n. -/
def la (ls : List ByteArray) : Nat → KV
  | 0 => []
  | n + 1 => (ls.getD n ⟨#[]⟩, (n : Int)) :: without (la ls n) (ls.getD n ⟨#[]⟩)
theorem without_nodup {l : KV} (h : (l.map Prod.fst).Nodup) (k : ByteArray) : ((without l k).map Prod.fst).Nodup := h.sublist (List.Sublist.map _ List.filter_sublist)
theorem without_none (l : KV) (k : ByteArray) : k ∉ (without l k).map Prod.fst := by
  intro h
  obtain ⟨p, hp, e⟩ := List.mem_map.1 h
  have := (List.mem_filter.1 hp).2
  simp [e] at this
theorem la_nodup (ls : List ByteArray) : ∀ n, ((la ls n).map Prod.fst).Nodup
  | 0 => by simp [la]
  | n + 1 => by
    show (ls.getD n ⟨#[]⟩ :: (without (la ls n) (ls.getD n ⟨#[]⟩)).map Prod.fst).Nodup
    exact List.nodup_cons.2 ⟨without_none _ _, without_nodup (la_nodup ls n) _⟩
theorem one_key {l : KV} (h : (l.map Prod.fst).Nodup) (k : ByteArray) : (l.filter fun p => !(decide (p.1 ≠ k))).length ≤ 1 := by
  induction l with
  | nil => simp
  | cons a l ih =>
    rw [List.map_cons, List.nodup_cons] at h
    by_cases e : a.1 = k
    · have h0 : l.filter (fun p => !(decide (p.1 ≠ k))) = [] := by
        rw [List.filter_eq_nil_iff]
        intro p hp hh
        have : p.1 = k := by simpa using hh
        exact h.1 (by rw [e, ← this]; exact List.mem_map_of_mem hp)
      rw [List.filter_cons_of_pos (by simp [e]), h0]
      simp
    · rw [List.filter_cons_of_neg (by simp [e])]
      exact ih h.2
theorem put_la (ls : List ByteArray) (m n : Nat) (hm : 1 ≤ m) : putR m ((la ls n).take m) (ls.getD n ⟨#[]⟩) (n : Int) = (la ls (n + 1)).take m := by
  obtain ⟨m, rfl⟩ : ∃ k, m = k + 1 := ⟨m - 1, by omega⟩
  show ((ls.getD n ⟨#[]⟩, (n : Int)) :: without ((la ls n).take (m + 1)) (ls.getD n ⟨#[]⟩)).take (m + 1) = ((ls.getD n ⟨#[]⟩, (n : Int)) :: without (la ls n) (ls.getD n ⟨#[]⟩)).take (m + 1)
  rw [List.take_succ_cons, List.take_succ_cons]
  congr 1
  exact take_filter _ _ _ (one_key (la_nodup ls n) _)

theorem getR_mem {l : KV} (h : (l.map Prod.fst).Nodup) {k : ByteArray} {v : Int} (hm : (k, v) ∈ l) : getR l k = some v := by
  induction l with
  | nil => cases hm
  | cons a l ih =>
    rw [List.map_cons, List.nodup_cons] at h
    unfold getR
    by_cases e : a.1 = k
    · rw [List.find?_cons_of_pos (by simp [e])]
      rcases List.mem_cons.1 hm with rfl | hm
      · rfl
      · exact absurd (by rw [e]; exact List.mem_map_of_mem (f := Prod.fst) hm) h.1
    · rw [List.find?_cons_of_neg (by simp [e])]
      rcases List.mem_cons.1 hm with rfl | hm
      · exact absurd rfl e
      · exact ih h.2 hm

/-- is j the last place of its key ahead of n? -/
def lastB (ls : List ByteArray) (n j : Nat) : Bool := (List.range n).all fun k => decide (k ≤ j ∨ ls.getD k ⟨#[]⟩ ≠ ls.getD j ⟨#[]⟩)
def laF (ls : List ByteArray) (n : Nat) : List Nat := (List.range n).reverse.filter (lastB ls n)
theorem la_eq (ls : List ByteArray) : ∀ n, la ls n = (laF ls n).map fun j => (ls.getD j ⟨#[]⟩, (j : Int))
  | 0 => by simp [la, laF]
  | n + 1 => by
    show (ls.getD n ⟨#[]⟩, (n : Int)) :: without (la ls n) (ls.getD n ⟨#[]⟩) = _
    rw [la_eq ls n]
    unfold laF without
    rw [List.range_succ, List.reverse_append, List.reverse_singleton, List.singleton_append, List.filter_cons_of_pos (by
      unfold lastB
      rw [List.all_eq_true]
      intro k hk
      have := List.mem_range.1 hk
      simp; left; omega)]
    rw [List.map_cons, List.filter_map, List.filter_filter]
    congr 2
    apply List.filter_congr
    intro j hj
    have hj' : j < n := by simpa using hj
    rw [Bool.eq_iff_iff, Bool.and_eq_true]
    unfold lastB
    rw [List.range_succ, List.all_append, Bool.and_eq_true, List.all_cons, List.all_nil, Bool.and_true]
    simp only [Function.comp, decide_eq_true_eq]
    constructor
    · rintro ⟨h1, h2⟩
      exact ⟨h2, .inr fun e => h1 e.symm⟩
    · rintro ⟨h1, h2⟩
      exact ⟨fun e => h2.elim (by omega) (fun h => h e.symm), h1⟩

/-- what has been seen behind c rounds from the end. -/
def seenN (ls : List ByteArray) (n c : Nat) : Nat := (((List.range n).reverse.take c).filter (lastB ls n)).length
theorem rev_get (n c : Nat) (h : c < n) : (List.range n).reverse[c]'(by simpa using h) = n - 1 - c := by simp
theorem seen_step (ls : List ByteArray) (n c : Nat) (h : c < n) : seenN ls n (c + 1) = seenN ls n c + if lastB ls n (n - 1 - c) then 1 else 0 := by
  unfold seenN
  rw [List.take_succ_eq_append_getElem (by simpa using h), List.filter_append, List.length_append, rev_get n c h]
  split
  · rename_i hh; simp [hh]
  · rename_i hh; simp [hh]
theorem seen_all (ls : List ByteArray) (n : Nat) : seenN ls n n = (la ls n).length := by
  unfold seenN
  rw [List.take_of_length_le (by simp), la_eq]
  simp [laF]
theorem seen_le (ls : List ByteArray) (n c : Nat) : seenN ls n c ≤ (la ls n).length := by
  rw [la_eq, List.length_map]
  unfold seenN laF
  exact (List.Sublist.filter _ (List.take_sublist _ _)).length_le
theorem seen_mem (ls : List ByteArray) (n c m : Nat) (h : c < n) (hl : lastB ls n (n - 1 - c) = true) (hm : seenN ls n c < m) : (ls.getD (n - 1 - c) ⟨#[]⟩, ((n - 1 - c : Nat) : Int)) ∈ (la ls n).take m := by
  rw [la_eq, ← List.map_take]
  refine List.mem_map.2 ⟨n - 1 - c, ?_, rfl⟩
  unfold laF
  have hsplit : (List.range n).reverse = (List.range n).reverse.take c ++ (n - 1 - c) :: (List.range n).reverse.drop (c + 1) := by
    rw [← rev_get n c h]
    rw [List.getElem_cons_drop, List.take_append_drop]
  rw [hsplit, List.filter_append, List.filter_cons_of_pos hl, List.take_append]
  apply List.mem_append_right
  unfold seenN at hm
  obtain ⟨k, hk⟩ : ∃ k, m - (List.filter (lastB ls n) ((List.range n).reverse.take c)).length = k + 1 := ⟨m - (List.filter (lastB ls n) ((List.range n).reverse.take c)).length - 1, by omega⟩
  rw [hk, List.take_succ_cons]
  exact List.mem_cons_self
/-- the inner loop's word. -/
def laterB (ls : List ByteArray) (i k : Nat) : Bool := (List.range k).any fun j => decide (i < j) && decide (ls.getD j ⟨#[]⟩ = ls.getD i ⟨#[]⟩)
theorem later_start (ls : List ByteArray) (i : Nat) : laterB ls i (i + 1) = false := by
  unfold laterB
  rw [List.any_eq_false]
  intro j hj
  have := List.mem_range.1 hj
  simp
  omega
theorem later_step (ls : List ByteArray) (i k : Nat) (h : i < k) : laterB ls i (k + 1) = (laterB ls i k || decide (ls.getD k ⟨#[]⟩ = ls.getD i ⟨#[]⟩)) := by
  unfold laterB
  rw [List.range_succ, List.any_append, List.any_cons, List.any_nil, Bool.or_false, decide_eq_true h, Bool.true_and]
theorem later_last (ls : List ByteArray) (i n : Nat) : laterB ls i n = !lastB ls n i := by
  unfold laterB lastB
  rw [List.not_all_eq_any_not]
  congr 1
  funext j
  rw [Bool.eq_iff_iff, Bool.and_eq_true, Bool.not_eq_true', decide_eq_true_eq, decide_eq_true_eq, decide_eq_false_iff_not, not_or, Nat.not_le]
  exact ⟨fun h => ⟨h.1, fun e => e h.2⟩, fun h => ⟨h.1, Classical.byContradiction h.2⟩⟩

end Go.Proofs.Ytcebljcofkohiaa
