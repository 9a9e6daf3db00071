/- Layer 12: a timer's New, Set, Cancel, Next, Len. -/
import Derived.Test.YtdgkknjmhdmlfaaTiOps
namespace Go.Proofs.Ytdgkknjmhdmlfaa
set_option linter.unusedVariables false
open Go.RowKit
open Go.MapKept Go.WideMaps

/-- a timer with just these to be due. -/
def Tk (N : Nat) (w : World) (T : Nat) (xs : List En) : Prop := ∃ M v, TmA N w T M v xs ∧ Hp xs xs.length
theorem Tk.blk {N : Nat} {w w' : World} {T : Nat} {xs : List En} (h : Tk N w T xs) (hb : Below w.heap.size w w') : Tk N w' T xs := by
  obtain ⟨M, v, h, hh⟩ := h
  exact ⟨M, v, h.blk hb, hh⟩
theorem Tk.base {N : Nat} {w : World} {T : Nat} {xs : List En} (h : Tk N w T xs) : N ≤ w.heap.size := by
  obtain ⟨M, v, h, hh⟩ := h
  exact h.base
theorem Tk.len {N : Nat} {w : World} {T : Nat} {xs : List En} (h : Tk N w T xs) : xs.length ≤ 1000 := by
  obtain ⟨M, v, h, hh⟩ := h
  exact h.len
theorem Tk.nd {N : Nat} {w : World} {T : Nat} {xs : List En} (h : Tk N w T xs) : (xs.map Prod.fst).Nodup := by
  obtain ⟨M, v, h, hh⟩ := h
  exact h.nd
theorem Tk.rng {N : Nat} {w : World} {T : Nat} {xs : List En} (h : Tk N w T xs) : ∀ e ∈ xs, W64 e.1 ∧ W64 e.2 := by
  obtain ⟨M, v, h, hh⟩ := h
  exact h.rng

theorem new_walk (w : World) :
    Calls Try.prog 10 #[] w fun e w' => e = .returned (pt (w.heap.size + 1)) ∧ w' = (w.alloc (.map #[] 0)).alloc (.cells #[.slice none 0 0, .map (some w.heap.size)] 69) := by
  have hmm := @run_makeMap Try.prog
  go_enter Try.func10, Try.ntmps10
  go_wp2
  go_ret
  exact ⟨rfl, rfl⟩
theorem new_in (w : World) (N : Nat) (hN : N ≤ w.heap.size) :
    Calls Try.prog 10 #[] w fun e w' => e = .returned (pt (w.heap.size + 1)) ∧ Tk N w' (w.heap.size + 1) [] ∧ Below w.heap.size w w' := by
  refine (new_walk w).mono ?_
  rintro e w' ⟨rfl, rfl⟩
  refine ⟨rfl, ⟨w.heap.size, .slice none 0 0, ⟨by omega, hN, ?_, World.ownsRow_nil .., ?_, by simp, by simp, by simp⟩, fun k k0 kn => by simp at kn⟩, ((Below.refl _ _).alloc (Nat.le_refl _) _).alloc (by simp) _⟩
  · have := heap_alloc_last (w.alloc (.map #[] 0)) (.cells #[.slice none 0 0, .map (some w.heap.size)] 69 (0, 0))
    simpa using this
  · have h := World.ownsMap_made (H := Unit) w Try.prog 3 (plainElem Try.prog 3)
    exact ⟨_, h.alloc _, fun i hi => by simp at hi, fun k _ z => rfl⟩

theorem tlen_in {N : Nat} {w : World} {T : Nat} {xs : List En} (h : Tk N w T xs) :
    Calls Try.prog 19 #[pt T] w fun e w' => e = .returned (.int .i64 (xs.length : Int)) ∧ w' = w := by
  obtain ⟨M, v, h, hh⟩ := h
  have HL := Hid.mk (plen_in h)
  clear h hh
  go_enter Try.func19, Try.ntmps19
  go_wp2_with fail
  refine HL.out.mono ?_
  rintro e w1 ⟨rfl, rfl⟩
  go_wp2
  go_ret
  exact ⟨rfl, rfl⟩

/-- what Next tells. -/
def nx (xs : List En) : Int × Int × Bool := match xs with | [] => (0, 0, false) | e :: _ => (e.1, e.2, true)
set_option maxRecDepth 100000 in
theorem next_in {N : Nat} {w : World} {T : Nat} {xs : List En} (h : Tk N w T xs) :
    Calls Try.prog 16 #[pt T] w fun e w' => e = .returned (.tuple #[.int .i64 (nx xs).1, .int .i64 (nx xs).2.1, .bool (nx xs).2.2]) ∧ Below w.heap.size w w' := by
  obtain ⟨M, v, h, hh⟩ := h
  have HL := Hid.mk (plen_in h)
  cases xs with
  | nil =>
    clear h hh
    go_enter Try.func16, Try.ntmps16
    go_wp2_with fail
    refine HL.out.mono ?_
    rintro e w1 ⟨rfl, rfl⟩
    go_wp2
    go_ret3
    exact ⟨rfl, Below.refl _ _⟩
  | cons x xs =>
    obtain ⟨g, cap, cur, rfl, hNg, hg, hc1, hc2, hc3, hc4⟩ := h.at (by simp)
    have c0 := h.c0
    obtain ⟨a0, a1⟩ := at_cell hg hc4 0 (by simp)
    simp only [List.getElem_cons_zero, Nat.zero_mul, Nat.zero_add] at a0 a1
    have hTw := blk_lt h.tb
    have hgw := blk_lt hg
    have hlen := h.len
    simp only [List.length_cons] at hlen c0 HL hc1
    obtain ⟨n, hn⟩ : ∃ n, xs.length = n := ⟨_, rfl⟩
    rw [hn] at hlen c0 HL hc1
    have hz : (((n + 1 : Nat) : Int) == 0) = false := by simp; omega
    obtain ⟨xi, xa⟩ := x
    show Calls _ _ _ _ fun e w' => e = .returned (.tuple #[.int .i64 xi, .int .i64 xa, .bool true]) ∧ _
    simp only at a0 a1
    clear h hh hg hc4 hc3 hn
    go_enter Try.func16, Try.ntmps16
    go_wp2_with fail
    refine HL.out.mono ?_
    rintro e w1 ⟨rfl, rfl⟩
    go_wp2
    go_region
    all_goals
      go_wp2
      go_ret3
      exact ⟨rfl, ((Below.refl _ _).alloc (Nat.le_refl _) _).drew⟩

/-! ### Set, Cancel -/
def wo (xs : List En) (id : Int) : List En := xs.filter fun e => decide (e.1 ≠ id)
theorem wo_none {xs : List En} {id : Int} (h : ∀ e ∈ xs, e.1 ≠ id) : wo xs id = xs := by
  unfold wo
  rw [List.filter_eq_self]
  intro e he
  simpa using h e he
theorem ex_at {xs : List En} {id : Int} (h : ¬ ∀ e ∈ xs, e.1 ≠ id) : ∃ i, ∃ hi : i < xs.length, xs[i].1 = id := by
  have : ∃ e ∈ xs, e.1 = id := by
    apply Classical.byContradiction
    intro hn
    exact h fun e he hh => hn ⟨e, he, hh⟩
  obtain ⟨e, he, hh⟩ := this
  obtain ⟨i, hi, h2⟩ := List.getElem_of_mem he
  exact ⟨i, hi, by rw [h2]; exact hh⟩
/-- split at a place. -/
theorem split_at (xs : List En) (i : Nat) (hi : i < xs.length) : xs = xs.take i ++ xs[i] :: xs.drop (i + 1) := by
  rw [← List.drop_eq_getElem_cons hi, List.take_append_drop]
theorem wo_at {xs : List En} (nd : (xs.map Prod.fst).Nodup) {i : Nat} (hi : i < xs.length) : wo xs xs[i].1 = xs.take i ++ xs.drop (i + 1) := by
  have e := split_at xs i hi
  obtain ⟨X, hX⟩ : ∃ X, xs.take i = X := ⟨_, rfl⟩
  obtain ⟨Y, hY⟩ : ∃ Y, xs.drop (i + 1) = Y := ⟨_, rfl⟩
  obtain ⟨z, hz⟩ : ∃ z, xs[i] = z := ⟨_, rfl⟩
  rw [hX, hY, hz] at e
  rw [hX, hY, hz]
  rw [e, List.map_append, List.map_cons] at nd
  have nd2 := List.nodup_cons.1 (List.perm_middle.nodup_iff.1 nd)
  rw [e]
  have h1 : ∀ x ∈ X ++ Y, x.1 ≠ z.1 := fun x hx hh => nd2.1 (by rw [← hh, ← List.map_append]; exact List.mem_map_of_mem hx)
  unfold wo
  rw [List.filter_append, List.filter_cons, if_neg (by simp)]
  rw [List.filter_eq_self.2, List.filter_eq_self.2]
  · intro x hx; simpa using h1 x (by simp [hx])
  · intro x hx; simpa using h1 x (by simp [hx])
theorem set_perm {xs : List En} (nd : (xs.map Prod.fst).Nodup) {i : Nat} (hi : i < xs.length) (e : En) : (xs.set i e).Perm (e :: wo xs xs[i].1) := by
  rw [wo_at nd hi, List.set_eq_take_append_cons_drop, if_pos hi]
  exact List.perm_middle
theorem cut_perm {xs ys : List En} (nd : (xs.map Prod.fst).Nodup) {i : Nat} (hi : i < xs.length) (h : (A xs i :: ys).Perm xs) : ys.Perm (wo xs xs[i].1) := by
  rw [wo_at nd hi]
  have e := split_at xs i hi
  rw [A_lt hi] at h
  have h2 : (xs[i] :: ys).Perm (xs[i] :: (xs.take i ++ xs.drop (i + 1))) := h.trans ((List.Perm.of_eq e).trans List.perm_middle)
  exact h2.cons_inv

theorem set_no (w : World) (T : Nat) (id at' : Int) (h : at' < 0) :
    Calls Try.prog 12 #[pt T, .int .i64 id, .int .i64 at'] w fun e w' => e = .returned (.int .i64 1) ∧ w' = w := by
  go_enter Try.func12, Try.ntmps12
  go_wp2
  go_ret
  exact ⟨rfl, rfl⟩

set_option maxRecDepth 100000 in
set_option maxHeartbeats 1000000 in
theorem set_in {N : Nat} {w : World} {T : Nat} {xs : List En} (h : Tk N w T xs) (id at' : Int) (h0 : ¬ at' < 0) (w1 : W64 id) (w2 : W64 at') (hl : xs.length < 1000) :
    Calls Try.prog 12 #[pt T, .int .i64 id, .int .i64 at'] w fun e w' => e = .returned (.int .i64 0) ∧ (∃ ys, Tk N w' T ys ∧ ys.Perm ((id, at') :: wo xs id)) ∧ Fr N w w' := by
  obtain ⟨M, v, h, hh⟩ := h
  have c1 := h.c1
  by_cases hk : ∀ e ∈ xs, e.1 ≠ id
  · have HM := h.mp.miss hk w1
    have HP := Hid.mk (hpush_in h hh (id, at') hk w1 w2 hl)
    have HW := Hid.mk (wo_none hk)
    clear h hh hk
    go_enter Try.func12, Try.ntmps12
    go_wp2_with fail
    refine HP.out.mono ?_
    rintro r w3 ⟨rfl, M', v', ys, t3, p3, h3, f3⟩
    have HR : Hid ((∃ ys, Tk N w3 T ys ∧ ys.Perm ((id, at') :: wo xs id)) ∧ Fr N w w3) := ⟨⟨ys, ⟨M', v', t3, h3⟩, by rw [HW.out]; exact p3⟩, f3⟩
    clear t3 p3 h3 f3
    go_wp2
    go_ret
    exact ⟨rfl, HR.out⟩
  · obtain ⟨i, hi, hid⟩ := ex_at hk
    have HM := h.mp.hit hi (by rw [hid]; exact w1)
    rw [hid] at HM
    obtain ⟨g, cap, cur, rfl, hNg, hg, hc1, hc2, hc3, hc4⟩ := h.at (by omega)
    have c0 := h.c0
    obtain ⟨a0, a1⟩ := at_cell hg hc4 i hi
    have hfz := frozen_of hg (i * 2 + 1)
    have hgT : ¬ g = T := fun e => by subst e; rw [h.tb] at hg; cases hg
    have hTg : ¬ T = g := fun e => hgT e.symm
    have hgM : ¬ g = M := fun e => by
      subst e
      obtain ⟨es, cl, hm⟩ := h.mp.isMap
      rw [hm] at hg; cases hg
    obtain ⟨U, hU⟩ : ∃ U, w.setCell ⟨g, i * 2 + 1, none⟩ (.int .i64 at') = U := ⟨_, rfl⟩
    have ug : U.heap[g]? = some (.cells (cur.setIfInBounds (i * 2 + 1) (.int .i64 at')) 74 (0, 0)) := by rw [← hU]; exact heap_set_same hg _ _
    have hsl : (xs.set i (id, at')).length = xs.length := by simp
    have hfst : (xs.set i (id, at')).map Prod.fst = xs.map Prod.fst := by
      rw [List.map_set, ← hid, ← List.getElem_map Prod.fst (h := by simpa using hi), List.set_getElem_self]
    have tU : TmA N U T M (.slice (some ⟨g, 0, none⟩) xs.length cap) (xs.set i (id, at')) := by
      refine ⟨h.nT, h.nM, ?_, ⟨fl_len _, .inr ⟨g, cap, _, by rw [hsl], hNg, ug, by omega, hc2, by simpa using hc3, ?_⟩⟩, ?_, ?_, ?_, by omega⟩
      · rw [← hU, Below.heap_setCell _ _ _ _ hTg]; exact h.tb
      · have hx : (fl xs).set (i * 2) (.int .i64 id) = fl xs := by
          have := (fl_get xs i hi).1
          rw [hid] at this
          obtain ⟨hlt, hv⟩ := List.getElem?_eq_some_iff.1 this
          rw [← hv, List.set_getElem_self]
        rw [hsl, fl_set xs i (id, at') hi, hx, ← hc4]
        simp [List.take_set]
      · have hM : U.heap[M]? = w.heap[M]? := by rw [← hU]; exact Below.heap_setCell _ _ _ _ (fun e => hgM e.symm)
        obtain ⟨D, hD, hP⟩ := h.mp.same hM
        refine ⟨D, by rw [hsl]; exact hD, fun j hj z => ?_, fun k hk z => ?_⟩
        · have hj' : j < xs.length := by omega
          have : ((xs.set i (id, at'))[j]).1 = xs[j].1 := by
            rw [List.getElem_set]
            by_cases e : i = j
            · subst e; rw [if_pos rfl]; exact hid.symm
            · rw [if_neg e]
          rw [this]
          exact hP.yes j hj' z
        · refine hP.no k (fun x hx => ?_) z
          intro hxk
          have : k ∈ (xs.set i (id, at')).map Prod.fst := by rw [hfst, ← hxk]; exact List.mem_map_of_mem hx
          obtain ⟨y, hy, hyk⟩ := List.mem_map.1 this
          exact hk y hy hyk
      · rw [hfst]; exact h.nd
      · intro x hx
        rcases List.mem_or_eq_of_mem_set hx with hx | hx
        · exact h.rng x hx
        · subst hx; exact ⟨w1, w2⟩
    have fU : Fr N w U := by rw [← hU]; exact Fr.set (Fr.refl N w) hg (.inr rfl) hNg _
    have HFx := Hid.mk (hfix_in tU i (by omega) (by rw [hsl]; exact hh.turn hi _))
    have HS : Hid ((xs.set i (id, at')).Perm ((id, at') :: wo xs id)) := by
      have := set_perm h.nd hi (id, at')
      rwa [hid] at this
    have HFU := Hid.mk fU
    have hil := h.len
    obtain ⟨n, hn⟩ : ∃ n, xs.length = n := ⟨_, rfl⟩
    rw [hn] at c0 hi hil
    clear h hh hk hg hc4 hc3 ug hsl hfst tU fU hid hn
    go_enter Try.func12, Try.ntmps12
    go_wp2_with fail
    refine HFx.out.mono ?_
    rintro r w3 ⟨rfl, M', v', ys, t3, p3, h3, f3⟩
    have HR : Hid ((∃ ys, Tk N w3 T ys ∧ ys.Perm ((id, at') :: wo xs id)) ∧ Fr N w w3) := ⟨⟨ys, ⟨M', v', t3, h3⟩, p3.trans HS.out⟩, HFU.out.trans f3⟩
    clear t3 p3 h3 f3
    go_wp2
    go_ret
    exact ⟨rfl, HR.out⟩

set_option maxRecDepth 100000 in
theorem cancel_in {N : Nat} {w : World} {T : Nat} {xs : List En} (h : Tk N w T xs) (id : Int) (w1 : W64 id) :
    Calls Try.prog 14 #[pt T, .int .i64 id] w fun e w' => e = .returned (.bool (decide (∃ e ∈ xs, e.1 = id))) ∧ (∃ ys, Tk N w' T ys ∧ ys.Perm (wo xs id)) ∧ Fr N w w' := by
  obtain ⟨M, v, h, hh⟩ := h
  have c1 := h.c1
  by_cases hk : ∀ e ∈ xs, e.1 ≠ id
  · have HM := h.mp.miss hk w1
    have hd : decide (∃ e ∈ xs, e.1 = id) = false := by
      apply decide_eq_false
      rintro ⟨e, he, hh⟩
      exact hk e he hh
    rw [hd]
    have HR : Hid ((∃ ys, Tk N w T ys ∧ ys.Perm (wo xs id)) ∧ Fr N w w) := ⟨⟨xs, ⟨M, v, h, hh⟩, by rw [wo_none hk]⟩, Fr.refl _ _⟩
    clear h hh hk hd
    go_enter Try.func14, Try.ntmps14
    go_wp2
    go_ret
    exact ⟨rfl, HR.out⟩
  · obtain ⟨i, hi, hid⟩ := ex_at hk
    have HM := h.mp.hit hi (by rw [hid]; exact w1)
    rw [hid] at HM
    have hd : decide (∃ e ∈ xs, e.1 = id) = true := decide_eq_true ⟨xs[i], List.getElem_mem hi, hid⟩
    rw [hd]
    have HRm := Hid.mk (hremove_in h hh i hi)
    have HC : Hid (∀ ys : List En, (A xs i :: ys).Perm xs → ys.Perm (wo xs id)) := fun ys hp => by
      have := cut_perm h.nd hi hp
      rwa [hid] at this
    have hil := h.len
    obtain ⟨n, hn⟩ : ∃ n, xs.length = n := ⟨_, rfl⟩
    rw [hn] at hi hil
    clear h hh hk hd hid hn
    go_enter Try.func14, Try.ntmps14
    go_wp2_with fail
    refine HRm.out.mono ?_
    rintro r w3 ⟨rfl, M', v', ys, t3, p3, h3, f3⟩
    have HR : Hid ((∃ ys, Tk N w3 T ys ∧ ys.Perm (wo xs id)) ∧ Fr N w w3) := ⟨⟨ys, ⟨M', v', t3, h3⟩, HC.out ys p3⟩, f3⟩
    clear t3 p3 h3 f3
    go_wp2
    go_ret
    exact ⟨rfl, HR.out⟩

end Go.Proofs.Ytdgkknjmhdmlfaa
